/- What the proofs of layer 2 need of the world that they begin in: the tables, the arguments opened and read again. No statement is proved here. -/
import Derived.Test.YtjfgmcmnpekahaaDoorOpen
import Derived.Test.YtjfgmcmnpekahaaDoorBCurW
import Derived.Test.YtjfgmcmnpekahaaDoorRows
import Derived.Test.YtjfgmcmnpekahaaDoorCards
import Derived.Test.YtjfgmcmnpekahaaDoorTie
import Derived.PinnedBridge
import Derived.Lay
import Derived.Lib.LaidU8T
import Derived.OpenShut
import Derived.SevenTiedAt
namespace Go.Proofs.YtjfgmcmnpekahaaDoor
open Go.RowKit Go.ChangeShapes Go.WideShapes Go.ChangeAt Go.Shelf Go.Lib
set_option maxRecDepth 100000

def laidAll : List (String × DataW Unit) := [("math/bits.deBruijn32tab", Rows.laid_math_bits_deBruijn32tab), ("math/bits.deBruijn64tab", Rows.laid_math_bits_deBruijn64tab), ("internal/strconv.uint64pow10", Rows.laid_internal_strconv_uint64pow10), ("unicode/utf8.acceptRanges", Rows.laid_unicode_utf8_acceptRanges), ("coffret/bson.codes", Rows.laid_coffret_bson_codes), ("unicode/utf8.first", Rows.laid_unicode_utf8_first)]
theorem own : ownKnob Tryd.prog.godebug = none := by kernel_rfl
theorem accept_is : (Rows.laid_unicode_utf8_acceptRanges : DataW Unit) = Lib.acceptData := by kernel_rfl
theorem codes_is : (Rows.laid_coffret_bson_codes : DataW Unit) = Lib.tabData .u8 kindB := by kernel_rfl
theorem pow_is : (Rows.laid_internal_strconv_uint64pow10 : DataW Unit) = Lib.tabData .u64 Lib.pow10Tab := by kernel_rfl
theorem tabs_of_laid {W : World} (h : laidMet Tryd.prog laidAll W) : Tabs W :=
  utf8Tabs_of_readsT (U8Types.of196 Tryd.laysValid) ⟨by kernel_rfl, by kernel_rfl, by kernel_rfl, by kernel_rfl, by kernel_rfl, by kernel_rfl, by kernel_rfl⟩ (Pinned.utf8First_eq ▸ Lib.laidMet.reads h (.tail _ (.tail _ (.tail _ (.tail _ (.tail _ (.head _))))))) (accept_is ▸ Lib.laidMet.reads h (.tail _ (.tail _ (.tail _ (.head _)))))
theorem tabIs_of_reads {P : Program} {W : World} {name : String} {k : IntKind} {zs : List Int} {g : Nat} {t e : TypeId} {n : Nat}
    (hg : P.globalNamed name = some g) (hty : (P.globals[g]?).map (·.type) = some t) (ht : P.underlying t = some (.array n e)) (he : P.underlying e = some (.int k)) (hce : P.cellsOf e = 1) (hct : P.cellsOf t = n)
    (h : Lib.VarReads P W name (Lib.tabData k zs)) : Lib.TabIs P W name k zs := by
  obtain ⟨g', t', cs, fuel, p, hg', ht', hvar, hd⟩ := h
  obtain rfl := Option.some.inj (hg.symm.trans hg')
  obtain rfl := Option.some.inj (hty.symm.trans ht')
  unfold Lib.TabIs
  rw [hvar, ← Lib.cells_of_tab ht he hce hct hd]
theorem codes_named : Tryd.prog.globalNamed "coffret/bson.codes" = some 0 := by kernel_rfl
theorem pow_named : Tryd.prog.globalNamed powName = some 3 := by kernel_rfl
theorem env2_of {W : World} (h : laidMet Tryd.prog laidAll W) : Env2 W W.heap.size := by
  have ht := tabs_of_laid h
  have hc : Lib.TabIs Tryd.prog W "coffret/bson.codes" .u8 kindB := tabIs_of_reads codes_named (by kernel_rfl) Tryd.underlying80 Tryd.underlying5 (by kernel_rfl) (by kernel_rfl) (codes_is ▸ Lib.laidMet.reads h (.tail _ (.tail _ (.tail _ (.tail _ (.head _))))))
  have hp : Lib.TabIs Tryd.prog W powName .u64 Lib.pow10Tab := tabIs_of_reads pow_named (by kernel_rfl) Tryd.underlying114 Tryd.underlying84 (by kernel_rfl) (by kernel_rfl) (pow_is ▸ Lib.laidMet.reads h (.tail _ (.tail _ (.head _))))
  have hcodes : Codes W := fun k x hx => by
    have hk := lt_of_get hx
    have := Lib.TabIs.cell hc codes_named k hk
    rw [this, List.getD_eq_getElem?_getD, hx]
    rfl
  refine ⟨ht, hcodes, hp, fun b hb => ?_⟩
  rcases hb with rfl | rfl | rfl | hb
  · have := cell_lt (hcodes 0 0 rfl); simpa using this
  · have := cell_lt (ht.1 0 (by omega)); simpa using this
  · have := cell_lt (ht.2 0 (by omega)).1; simpa using this
  · rw [pow_named] at hb
    injection hb with hb
    subst hb
    have := cell_lt (Lib.TabIs.cell hp pow_named 0 (by rw [Lib.pow10Tab_length]; omega))
    simpa using this
theorem laid_out : laidOutB Tryd.prog = true := by kernel_rfl

section
variable {H : Type} {enc : TypeId × Value → H} {W : World}
theorem open_tight {r : Reach} {base : Nat} {v : Value} {d : DataW H} {p : List MemPlace} (hv : Value.okWide Tryd.prog W r base 25 v) (h : DataW.Trod enc Tryd.prog W 0 (fun _ => true) true 25 v d p) (hw : reached (d.weights Tryd.prog 25)) : ∃ t : T, v = t.arg ∧ t.In W ∧ t.ok ∧ t.val.room 42 := by
  obtain ⟨cs, rfl, _⟩ := okWide_struct Tryd.underlying25 hv
  obtain ⟨fuel, hf⟩ := h
  obtain ⟨t, ht, hin, hok, htt⟩ := open_value fuel _ _ hf hw
  refine ⟨t, ?_, hin, hok, htt⟩
  have ht2 : cs.toList = t.cells := ht
  unfold T.arg
  rw [← ht2]
theorem open_arg {r : Reach} {base : Nat} {v : Value} {d : DataW H} {p : List MemPlace} (hv : Value.okWide Tryd.prog W r base 25 v) (h : DataW.Trod enc Tryd.prog W 0 (fun _ => true) true 25 v d p) (hw : reached (d.weights Tryd.prog 25)) : ∃ t : T, v = t.arg ∧ t.In W ∧ t.ok := by
  obtain ⟨t, h1, h2, h3, -⟩ := open_tight hv h hw
  exact ⟨t, h1, h2, h3⟩
theorem back_arg {W' : World} {v : Value} {d : DataW H} {p : List MemPlace} (h : DataW.Trod enc Tryd.prog W 0 (fun _ => true) true 25 v d p) (hb : Below W.heap.size W W') (hlt : ∀ x ∈ p, x.block < W.heap.size) :
    DataW.Trod enc Tryd.prog W' 0 (fun b => decide (b < W.heap.size)) true 25 v d p :=
  Below.trod laid_out (by kernel_rfl) (of_decide_eq_true (by kernel_rfl)) h hb hlt
end
/-- The argument that witnesses: all zero. -/
def zeroArg : Value := .agg #[.int .i64 0, .int .i64 0, .string ⟨#[]⟩, .slice none 0 0, .slice none 0 0]
theorem cells_byte : Tryd.prog.cellsOf 5 = 1 := by kernel_rfl
theorem bytes_byte : Tryd.prog.bytesOf 5 = 1 := by kernel_rfl
section
variable {H : Type} {enc : TypeId × Value → H} {W : World}
theorem in_row {α : Type} {a : Addr} {n : Nat} {Q : α → Prop} {f : α → Value} (h : ∀ i, i < n → ∃ x : α, W.cell? (a.add i) = some (f x) ∧ Q x) : ∃ l : List α, l.length = n ∧ (∀ (i : Nat) (x : α), l[i]? = some x → ∃ b o, some a = some (⟨b, o, none⟩ : Addr) ∧ W.cell? ⟨b, o + i, none⟩ = some (f x)) ∧ ∀ x ∈ l, Q x := by
  obtain ⟨l, hl, hq⟩ := pick h
  refine ⟨l, hl, fun i x hx => ?_, fun x hx => ?_⟩
  · have h0 : a.spot = none := by
      obtain ⟨x0, hx0⟩ : ∃ x0, l[0]? = some x0 := ⟨_, List.getElem?_eq_getElem (by have := lt_of_get hx; omega)⟩
      have h1 := (hq 0 x0 hx0).1
      exact spot_none (a := a) (by simpa [Addr.add] using h1)
    have h2 := (hq i x hx).1
    rw [add_plain h0] at h2
    obtain ⟨b, o, s⟩ := a
    simp only at h0
    subst h0
    exact ⟨b, o, rfl, h2⟩
  · obtain ⟨i, hi⟩ := List.getElem?_of_mem hx
    exact (hq i x hi).2
theorem open_bytesL {cs : List Value} {y : DataW H × List MemPlace} {held : Bool} (n : Nat) (h3 : DataW.trod enc Tryd.prog W 0 (fun _ => true) held n 28 cs = some y) (w3 : reached (y.1.weights Tryd.prog 28)) :
    ∃ la lc l, cs = [.slice la (l : List Int).length lc] ∧ InB W la l ∧ isB l ∧ (l.length ≤ lc ∧ lc ≤ 140737488351232) ∧ (la = none → lc = 0) := by
  rcases DataW.trod_slice Tryd.underlying28 h3 with ⟨hc, -⟩ | ⟨a, len, cap, elems, rest, n2, rfl, hc, hx, -, hl, -, hel, hi, hsp, -⟩
  · exact ⟨none, 0, [], hc, InB.nil _ _, isB.nil, by simp, by simp⟩
  · have e3 := congrArg Prod.fst (Option.some.inj (Eq.symm (show some (_ : DataW H × List MemPlace) = some y from (congrArg some hx.symm))))
    simp only at e3
    rw [e3] at w3
    simp only [DataW.weights, Tryd.underlying28, reached_cons, reached_append] at w3
    obtain ⟨wc, we, -⟩ := w3
    have hcap : okLen (cap * 1) := by
      have := (hsp rfl).1
      simp only [List.length_map, hel, this, bytes_byte] at wc
      rw [show len + (cap - len) = cap by omega] at wc
      exact wc
    obtain ⟨l, hll, hin, hok⟩ := in_row (W := W) (a := a) (n := len) (Q := fun x : Int => 0 ≤ x ∧ x ≤ 255) (f := Value.int .u8) (fun i hil => by
      have e := hi i hil
      have hg : elems[i]? = some (elems[i]'(by omega)) := List.getElem?_eq_getElem (by omega)
      rw [hg, Option.bind_eq_some_iff] at e
      obtain ⟨cs', hcs, ht⟩ := e
      rw [cells_byte] at hcs
      obtain ⟨_, hcl, hat⟩ := World.cells?_some hcs
      obtain ⟨x, e0, -, wx⟩ := DataW.trod_int Tryd.underlying5 ht
      have h2 := hat 0 (by omega)
      rw [e0] at h2
      refine ⟨x, by simpa [Addr.add] using h2, ?_⟩
      simp [Lit.wf, IntKind.min, IntKind.max, IntKind.signed, IntKind.bits] at wx
      omega)
    refine ⟨some a, cap, l, by rw [hc, hll], hin, hok, by unfold okLen at hcap; omega, by simp⟩
theorem open_bytes {r : Reach} {base : Nat} {v : Value} {d : DataW H} {p : List MemPlace} (hv : Value.okWide Tryd.prog W r base 28 v) (h : DataW.Trod enc Tryd.prog W 0 (fun _ => true) true 28 v d p) (hw : reached (d.weights Tryd.prog 28)) :
    ∃ la lc l, v = .slice la (l : List Int).length lc ∧ InB W la l ∧ isB l ∧ (l.length ≤ lc ∧ lc ≤ 140737488351232) ∧ (la = none → lc = 0) := by
  obtain ⟨fuel, hf⟩ := h
  obtain ⟨la, lc, l, hc, h1⟩ := open_bytesL fuel hf hw
  obtain ⟨a, n, c, rfl⟩ := okWide_slice Tryd.underlying28 hv
  refine ⟨la, lc, l, ?_, h1⟩
  simpa [Value.cells] using hc
theorem back_bytes {W' : World} {v : Value} {d : DataW H} {p : List MemPlace} (h : DataW.Trod enc Tryd.prog W 0 (fun _ => true) true 28 v d p) (hb : Below W.heap.size W W') (hlt : ∀ x ∈ p, x.block < W.heap.size) :
    DataW.Trod enc Tryd.prog W' 0 (fun b => decide (b < W.heap.size)) true 28 v d p :=
  Below.trod laid_out (by kernel_rfl) (of_decide_eq_true (by kernel_rfl)) h hb hlt
theorem open_int {r : Reach} {base : Nat} {v : Value} {d : DataW H} {p : List MemPlace} (hv : Value.okWide Tryd.prog W r base 3 v) (h : DataW.Trod enc Tryd.prog W 0 (fun _ => true) true 3 v d p) : ∃ n : Int, v = .int .i64 n ∧ -9223372036854775808 ≤ n ∧ n ≤ 9223372036854775807 := by
  obtain ⟨n, rfl⟩ := okWide_int Tryd.underlying3 hv
  obtain ⟨fuel, hf⟩ := h
  obtain ⟨m, e, -, wx⟩ := DataW.trod_int Tryd.underlying3 hf
  simp [Value.cells] at e
  subst e
  refine ⟨n, rfl, ?_⟩
  simp [Lit.wf, IntKind.min, IntKind.max, IntKind.signed, IntKind.bits] at wx
  omega
theorem back_int {W' : World} {v : Value} {d : DataW H} {p : List MemPlace} (h : DataW.Trod enc Tryd.prog W 0 (fun _ => true) true 3 v d p) (hb : Below W.heap.size W W') (hlt : ∀ x ∈ p, x.block < W.heap.size) :
    DataW.Trod enc Tryd.prog W' 0 (fun b => decide (b < W.heap.size)) true 3 v d p :=
  Below.trod laid_out (by kernel_rfl) (of_decide_eq_true (by kernel_rfl)) h hb hlt
theorem open_byte {r : Reach} {base : Nat} {v : Value} {d : DataW H} {p : List MemPlace} (hv : Value.okWide Tryd.prog W r base 5 v) (h : DataW.Trod enc Tryd.prog W 0 (fun _ => true) true 5 v d p) : ∃ n : Int, v = .int .u8 n ∧ 0 ≤ n ∧ n ≤ 255 := by
  obtain ⟨n, rfl⟩ := okWide_int Tryd.underlying5 hv
  obtain ⟨fuel, hf⟩ := h
  obtain ⟨m, e, -, wx⟩ := DataW.trod_int Tryd.underlying5 hf
  simp [Value.cells] at e
  subst e
  refine ⟨n, rfl, ?_⟩
  simp [Lit.wf, IntKind.min, IntKind.max, IntKind.signed, IntKind.bits] at wx
  omega
theorem back_byte {W' : World} {v : Value} {d : DataW H} {p : List MemPlace} (h : DataW.Trod enc Tryd.prog W 0 (fun _ => true) true 5 v d p) (hb : Below W.heap.size W W') (hlt : ∀ x ∈ p, x.block < W.heap.size) :
    DataW.Trod enc Tryd.prog W' 0 (fun b => decide (b < W.heap.size)) true 5 v d p :=
  Below.trod laid_out (by kernel_rfl) (of_decide_eq_true (by kernel_rfl)) h hb hlt
end
end Go.Proofs.YtjfgmcmnpekahaaDoor
