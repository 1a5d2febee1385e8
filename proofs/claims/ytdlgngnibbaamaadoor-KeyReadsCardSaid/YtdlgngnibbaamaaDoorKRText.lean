/- The contract of keyenc's readText: no statement is proved here. -/
import Derived.Test.YtdlgngnibbaamaaDoorKSrc
import Derived.Test.YtdlgngnibbaamaaDoorKRow
namespace Go.Proofs.YtdlgngnibbaamaaDoor
open Go.RowKit
set_option maxRecDepth 100000

theorem bsI_str {l : List Int} (h : isB l) : bsI (strOfNums l) = l := by
  rw [bsI, strOfNums_data, List.map_map]
  conv => rhs; rw [← List.map_id l]
  apply List.map_congr_left
  intro x hx
  have := h x hx
  show ((UInt8.ofNat x.toNat).toNat : Int) = x
  rw [UInt8.toNat_ofNat']
  omega
theorem run_str (w : World) (a : Option Addr) (n c : Nat) (l : List Int) (hn : l.length = n) (ha : InB w a l) (h0 : a = none → l = []) :
    (convert 28 9 (.slice a n c)).run Tryd.prog w = .ok (.string (strOfNums l)) w := by
  cases a with
  | none =>
    rw [h0 rfl]
    exact run_convert_bytes_nil (P := Tryd.prog) w 28 5 Tryd.underlying28 Tryd.underlying5 n c 9 Tryd.underlying9
  | some ad =>
    by_cases hl : l = []
    · subst hl
      simp at hn
      subst hn
      obtain ⟨b, o, s⟩ := ad
      have hld : (loadCells ⟨b, o, s⟩ 0).run Tryd.prog w = .ok #[] w := by simp [loadCells, loadCellsFrom]
      rw [run_convert_bytes_string w 28 9 5 _ 0 c Tryd.underlying28 Tryd.underlying5 Tryd.underlying9]
      have := run_bytesToString (P := Tryd.prog) w ⟨b, o, s⟩ 0 c [] (by simpa using hld)
      rw [this]
      rfl
    · obtain ⟨b, o, e, -⟩ := ha 0 _ (List.getElem?_eq_getElem (List.length_pos_iff.2 hl))
      injection e with e
      subst e
      refine run_convert_bytes_arg (P := Tryd.prog) w 28 5 Tryd.underlying28 Tryd.underlying5 b o n c l hn (fun i hi => ?_) 9 Tryd.underlying9
      obtain ⟨b', o', e, hc⟩ := ha i _ (List.getElem?_eq_getElem (by omega))
      injection e with e
      injection e with e1 e2
      subst e1 e2
      rw [hc]
      simp [List.getD, List.getElem?_eq_getElem (show i < l.length by omega)]
theorem only_grow {w w' : World} {row : Option Nat} (h : w.grownBy w' row) : Only row.toList w w' := ⟨h.os, h.tape, h.output, h.size, fun k hk hn => h.block k hk (by rintro rfl; exact hn (by simp))⟩
theorem OwnB.only {w w' : World} {B : Nat} {v : Value} {l : List Int} {S : List Nat} (h : OwnB w B v l) (ho : Only S w w') (hS : ∀ b ∈ S, b < B) : OwnB w' B v l := h.keep fun g hg => ho.block g (h.block g hg).2 (fun hc => by have := hS _ hc; have := (h.block g hg).1; omega)
theorem Src.only {w w' : World} {B : Nat} {K : Ctx} {R : List Int} {S : List Nat} (h : Src w B K R) (ho : Only S w w') (hS : ∀ b ∈ S, B + 3 ≤ b) : Src w' B K R := by
  obtain ⟨i, h, e⟩ := h
  have hB : ∀ b, b < B + 3 → b ∉ S := fun b hb hc => by have := hS b hc; omega
  refine ⟨i, ⟨keep_row ho h.box (hB _ (by omega)), keep_row ho h.place (hB _ (by omega)), keep_row ho h.falls (hB _ (by omega)), fun i x hx => ?_, h.low, h.le, h.room, h.byte⟩, e⟩
  obtain ⟨b, o, e, hc⟩ := h.inb i x hx
  have := h.low b o e (by have := lt_of_get hx; omega)
  exact ⟨b, o, e, (World.cell?_of_block (ho.block b (cell_lt hc) (hB b (by omega)))).trans hc⟩

/-- What a text's reading says. -/
def TextRel (R : List Int) (s : ByteArray) (ok : Bool) (R' : List Int) : Prop := (ok = true → R = keyT (bsI s) ++ R') ∧ (∀ l Q, R = keyT l ++ Q → ok = true ∧ bsI s = l ∧ R' = Q) ∧ R'.length ≤ R.length ∧ s.size ≤ R.length
/-- How far it has come. -/
structure TextInv (R acc Rk : List Int) : Prop where
  eq : R = esc acc ++ Rk
  all : ∀ l Q, R = keyT l ++ Q → ∃ l', l = acc ++ l' ∧ Rk = keyT l' ++ Q
  byte : isB acc
  len : acc.length + Rk.length ≤ R.length
theorem TextInv.start (R : List Int) : TextInv R [] R := ⟨rfl, fun l Q h => ⟨l, rfl, h⟩, isB.nil, by simp⟩
theorem TextInv.plain {R acc Rk : List Int} {x : Int} (h : TextInv R acc (x :: Rk)) (h0 : x ≠ 0) (hb : 0 ≤ x ∧ x ≤ 255) : TextInv R (acc ++ [x]) Rk := by
  refine ⟨?_, fun l Q e => ?_, h.byte.append (isB.cons hb isB.nil), ?_⟩
  · rw [h.eq, esc, esc, List.flatMap_append]; simp [h0]
  · obtain ⟨l', rfl, e2⟩ := h.all l Q e
    cases l' with
    | nil => simp [keyT] at e2; omega
    | cons y r =>
      rw [keyT] at e2
      split at e2
      · simp at e2; omega
      · simp only [List.cons_append, List.cons.injEq] at e2
        obtain ⟨rfl, e2⟩ := e2
        exact ⟨r, by simp, e2⟩
  · have := h.len; simp at this ⊢; omega
theorem TextInv.zero {R acc Rk : List Int} (h : TextInv R acc (0 :: 255 :: Rk)) : TextInv R (acc ++ [0]) Rk := by
  refine ⟨?_, fun l Q e => ?_, h.byte.append (isB.cons (by omega) isB.nil), ?_⟩
  · rw [h.eq, esc, esc, List.flatMap_append]; simp
  · obtain ⟨l', rfl, e2⟩ := h.all l Q e
    cases l' with
    | nil => simp [keyT] at e2
    | cons y r =>
      rw [keyT] at e2
      split at e2
      · rename_i hy
        simp only [List.cons_append, List.cons.injEq, true_and] at e2
        exact ⟨r, by simp [hy], e2⟩
      · simp at e2; omega
  · have := h.len; simp at this ⊢; omega
theorem TextInv.done {R acc Rk : List Int} (h : TextInv R acc (0 :: 0 :: Rk)) : TextRel R (strOfNums acc) true Rk := by
  refine ⟨fun _ => ?_, fun l Q e => ?_, ?_, ?_⟩
  · rw [bsI_str h.byte, keyT_esc, h.eq]; simp
  · obtain ⟨l', rfl, e2⟩ := h.all l Q e
    cases l' with
    | nil =>
      simp only [keyT, List.cons_append, List.nil_append, List.cons.injEq, true_and] at e2
      exact ⟨rfl, by rw [bsI_str h.byte, List.append_nil], e2⟩
    | cons y r =>
      rw [keyT] at e2
      split at e2
      · simp at e2
      · simp at e2; omega
  · have := h.len; simp at this; omega
  · have := h.len; rw [strOfNums_size]; simp at this; omega
theorem TextInv.fail {R acc Rk R' : List Int} (h : TextInv R acc Rk) (hk : Rk = [] ∨ Rk = [0] ∨ ∃ y r, Rk = 0 :: y :: r ∧ y ≠ 0 ∧ y ≠ 255) (hl : R'.length ≤ Rk.length) : TextRel R ⟨#[]⟩ false R' := by
  refine ⟨fun h => (by cases h), fun l Q e => ?_, (by have := h.len; omega), Nat.zero_le _⟩
  obtain ⟨l', rfl, e2⟩ := h.all l Q e
  exfalso
  have hc : ∃ y r, keyT l' = y :: r ∧ (y = 0 → ∃ z r', r = z :: r' ∧ (z = 0 ∨ z = 255)) := by
    cases l' with
    | nil => exact ⟨0, [0], rfl, fun _ => ⟨0, [], rfl, .inl rfl⟩⟩
    | cons y r =>
      rw [keyT]
      split
      · exact ⟨0, _, rfl, fun _ => ⟨255, _, rfl, .inr rfl⟩⟩
      · rename_i hy; exact ⟨y, _, rfl, fun h => absurd h hy⟩
  obtain ⟨y, r, e3, h3⟩ := hc
  rw [e3, List.cons_append] at e2
  rcases hk with rfl | rfl | ⟨z, q, rfl, z0, z1⟩
  · cases e2
  · injection e2 with e4 e5
    obtain ⟨z, r', rfl, -⟩ := h3 e4.symm
    cases e5
  · injection e2 with e4 e5
    obtain ⟨z', r', rfl, hz⟩ := h3 e4.symm
    injection e5 with e5 _
    omega
def ReadsText (R : List Int) (B : Nat) (K : Ctx) (w : World) (e : Ending) (w' : World) : Prop := ∃ s ok R', e = .returned (.tuple #[.string s, .bool ok]) ∧ Src w' B K R' ∧ Only [B + 1] w w' ∧ TextRel R s ok R'
/-- The loop's state. -/
structure TextAt (w wr : World) (B : Nat) (K : Ctx) (R acc Rk : List Int) (u : Value) : Prop where
  own : OwnB wr w.heap.size u acc
  src : Src wr B K Rk
  only : Only [B + 1] w wr
  inv : TextInv R acc Rk
  size : B + 3 ≤ w.heap.size
  room : R.length ≤ 1000
theorem TextAt.next {w wr w1 : World} {B : Nat} {K : Ctx} {R acc Rk : List Int} {u : Value} (h : TextAt w wr B K R acc Rk u) (ho : Only [B + 1] wr w1) : OwnB w1 w.heap.size u acc ∧ Only [B + 1] w w1 :=
  ⟨h.own.only ho (by have := h.size; simp; omega), h.only.trans ho⟩
theorem TextAt.step {w wr w1 w2 : World} {B : Nat} {K : Ctx} {R acc Rk R1 : List Int} {u u2 : Value} {x : Int} (h : TextAt w wr B K R acc Rk u) (ho : Only [B + 1] wr w1) (hs : Src w1 B K R1) (hg : Grew w.heap.size w1 w2 u u2 (acc ++ [x])) (hi : TextInv R (acc ++ [x]) R1) : TextAt w w2 B K R (acc ++ [x]) R1 u2 := by
  have hb : ∀ b ∈ u.ownBlock.toList, w.heap.size ≤ b := fun b hb => (h.own.block b (by simpa using hb)).1
  refine ⟨hg.own, hs.only (only_grow hg.grow) (fun b hb' => by have := hb b hb'; have := h.size; omega), (h.only.trans ho).then_ (only_grow hg.grow) (fun b hb' => .inr (hb b hb')), hi, h.size, h.room⟩

set_option maxHeartbeats 4000000 in
theorem readText_any (w : World) (B : Nat) (K : Ctx) (R : List Int) (h : Src w B K R) : Calls Tryd.prog 111 #[nextF B] w (ReadsText R B K w) := by
  show Calls _ _ #[.func (.func 84) #[] #[.pointer (some ⟨B + 1, 0, none⟩), .pointer (some ⟨B, 0, none⟩), .pointer (some ⟨B + 2, 0, none⟩)]] _ _
  have hr : R.length ≤ 1000 := by obtain ⟨i, h, rfl⟩ := h; have := h.room; rw [List.length_drop, tf_len]; omega
  have HS := Lib.hid (show TextAt w w B K R [] R (.slice none 0 0) from ⟨OwnB.nil _ _, h, Only.refl _ _, TextInv.start R, h.size, hr⟩)
  clear h
  go_enter Tryd.func111, Tryd.ntmps111
  go_wp2_with fail
  go_loopw [4] (fun u wr => ∃ acc Rk, TextAt w wr B K R acc Rk u) (fun _ wr => leftOf wr B K.bs.length)
  case atStart => exact ⟨[], R, HS.out⟩
  case round =>
    obtain ⟨acc, Rk, hT⟩ := hrel
    have HT := Lib.hid hT
    have hz := hT.only.size
    have hlen := hT.inv.len
    obtain ⟨a, c, rfl, -, -, -, -⟩ := hT.own.shape
    clear hT
    rcases Rk with _ | ⟨x, R1⟩
    · go_wp2_with (first | (go_at_call 84; refine (next_any wr B K _ HT.out.src).mono ?_; rintro e w1 ⟨rfl, hs1, ho1⟩; have S1 := Lib.hid (And.intro hs1 ho1); clear hs1 ho1; simp only [List.headD_nil]))
      go_ret2
      exact ⟨_, _, _, rfl, S1.out.1, HT.out.only.trans S1.out.2, HT.out.inv.fail (.inl rfl) (by simp)⟩
    · obtain ⟨x0, x1⟩ := HT.out.src.isB x (by simp)
      by_cases hx : x = 0
      · subst hx
        rcases R1 with _ | ⟨y, R2⟩
        · go_wp2_with (first
            | (go_at_call 84; refine (next_any wr B K _ HT.out.src).mono ?_; rintro e w1 ⟨rfl, hs1, ho1⟩; have S1 := Lib.hid (And.intro hs1 ho1); clear hs1 ho1; simp only [List.headD_cons])
            | (go_at_call 84; refine (next_any w1 B K _ S1.out.1).mono ?_; rintro e w2 ⟨rfl, hs2, ho2⟩; have S2 := Lib.hid (And.intro hs2 ho2); clear hs2 ho2; simp only [List.tail_cons, List.headD_nil]))
          go_ret2
          exact ⟨_, _, _, rfl, S2.out.1, (HT.out.only.trans S1.out.2).trans S2.out.2, HT.out.inv.fail (.inr (.inl rfl)) (by simp)⟩
        · obtain ⟨y0, y1⟩ := HT.out.src.isB y (by simp)
          by_cases hy : y = 0
          · subst hy
            go_wp2_with (first
              | (go_at_call 84; refine (next_any wr B K _ HT.out.src).mono ?_; rintro e w1 ⟨rfl, hs1, ho1⟩; have S1 := Lib.hid (And.intro hs1 ho1); clear hs1 ho1; simp only [List.headD_cons])
              | (go_at_call 84; refine (next_any w1 B K _ S1.out.1).mono ?_; rintro e w2 ⟨rfl, hs2, ho2⟩; have oo := (HT.out.next S1.out.2).1.only ho2 (by have := HT.out.size; simp; omega); have kc := run_str w2 a acc.length c acc rfl (by obtain ⟨a', c', e, h1, h2, -, -⟩ := oo.shape; injection e with e1 _ _; subst e1; exact h1) (by obtain ⟨a', c', e, h1, h2, -, -⟩ := oo.shape; injection e with e1 _ _; subst e1; exact fun h => (h2 h).2); have S2 := Lib.hid (And.intro hs2 ho2); clear hs2 ho2 oo; simp only [List.tail_cons, List.headD_cons]))
            go_ret2
            exact ⟨_, _, _, rfl, S2.out.1, (HT.out.only.trans S1.out.2).trans S2.out.2, HT.out.inv.done⟩
          · by_cases hy2 : y = 255
            · subst hy2
              go_wp2_with (first
                | (go_at_call 84; refine (next_any wr B K _ HT.out.src).mono ?_; rintro e w1 ⟨rfl, hs1, ho1⟩; have S1 := Lib.hid (And.intro hs1 ho1); clear hs1 ho1; simp only [List.headD_cons])
                | (go_at_call 84; refine (next_any w1 B K _ S1.out.1).mono ?_; rintro e w2 ⟨rfl, hs2, ho2⟩; have oo := HT.out.next (S1.out.2.trans ho2); have zz := (HT.out.only.trans S1.out.2).trans ho2; have S2 := Lib.hid (And.intro hs2 (And.intro ho2 (And.intro oo.1 zz.size))); clear hs2 ho2 oo zz; simp only [List.tail_cons, List.headD_cons])
                | (at_builtin; refine apL _ rfl (.tmp 20) (.tmp 23) rfl w.heap.size _ _ rfl S2.out.2.2.1 [0] _ 1 1 rfl rfl rfl rfl (by simp at hlen; omega) S2.out.2.2.2 ?_; intro v3 w3 hg3; have G3 := Lib.hid (HT.out.step (S1.out.2.trans S2.out.2.1) S2.out.1 hg3 HT.out.inv.zero); clear hg3))
              go_roundw
              case rel => exact ⟨_, _, G3.out⟩
              case measure => rw [G3.out.src.left, HT.out.src.left]; simp; omega
            · have hy3 : ((y : Int) == 0) = false := by simp [hy]
              have hy4 : ((y : Int) == 255) = false := by simp [hy2]
              have HN := Lib.hid (And.intro hy hy2)
              clear hy hy2
              go_wp2_with (first
                | (go_at_call 84; refine (next_any wr B K _ HT.out.src).mono ?_; rintro e w1 ⟨rfl, hs1, ho1⟩; have S1 := Lib.hid (And.intro hs1 ho1); clear hs1 ho1; simp only [List.headD_cons])
                | (go_at_call 84; refine (next_any w1 B K _ S1.out.1).mono ?_; rintro e w2 ⟨rfl, hs2, ho2⟩; have S2 := Lib.hid (And.intro hs2 ho2); clear hs2 ho2; simp only [List.tail_cons, List.headD_cons]))
              go_ret2
              exact ⟨_, _, _, rfl, S2.out.1, (HT.out.only.trans S1.out.2).trans S2.out.2, HT.out.inv.fail (.inr (.inr ⟨y, R2, rfl, HN.out.1, HN.out.2⟩)) (by simp; omega)⟩
      · have hx3 : ((x : Int) == 0) = false := by simp [hx]
        have hxw : x % 256 = x := by omega
        have hxn : ¬ x < 0 := by omega
        have HN := Lib.hid hx
        clear hx
        go_wp2_with (first
          | (go_at_call 84; refine (next_any wr B K _ HT.out.src).mono ?_; rintro e w1 ⟨rfl, hs1, ho1⟩; have oo := HT.out.next ho1; have S1 := Lib.hid (And.intro hs1 (And.intro ho1 (And.intro oo.1 oo.2.size))); clear hs1 ho1 oo; simp only [List.headD_cons])
          | (at_builtin; refine apL _ rfl (.tmp 20) (.tmp 23) rfl w.heap.size _ _ rfl S1.out.2.2.1 [x] _ 1 1 rfl rfl rfl rfl (by simp at hlen; omega) S1.out.2.2.2 ?_; intro v3 w3 hg3; have G3 := Lib.hid (HT.out.step S1.out.2.1 S1.out.1 hg3 (HT.out.inv.plain HN.out ⟨x0, x1⟩)); clear hg3))
        go_roundw
        case rel => exact ⟨_, _, G3.out⟩
        case measure => rw [G3.out.src.left, HT.out.src.left]; simp
end Go.Proofs.YtdlgngnibbaamaaDoor
