/- The program's superblock: which may be, its page's number, where its numbers lie. The program's body of a superblock's page. What the program reads out of a superblock's body. No statement is proved here. -/
import Derived.Test.YtonjapphhbhcpaaDoorURef3
import Derived.Test.YtonjapphhbhcpaaDoorJ17
import Derived.Lib.SlBytesConst
import Derived.ArgAppend
namespace Go.Proofs.YtonjapphhbhcpaaDoor
open Go.RowKit
set_option maxRecDepth 100000

theorem pisv_yes (n : Int) (h1 : 1 ≤ n) (h2 : n ≤ 1099511627776) (w : World) : Calls Tryd.prog 52 #[.int .i64 n] w fun e w' => e = .returned (.bool true) ∧ w = w' := by
  go_enter Tryd.func52, Tryd.ntmps52
  go_wp2_with fail
  go_ret
  exact ⟨rfl, rfl⟩
theorem pisv_no (n : Int) (h : n < 1 ∨ 1099511627776 < n) (w : World) : Calls Tryd.prog 52 #[.int .i64 n] w fun e w' => e = .returned (.bool false) ∧ w = w' := by
  rcases h with h | h
  all_goals
    go_enter Tryd.func52, Tryd.ntmps52
    go_wp2_with fail
  all_goals go_ret
  all_goals exact ⟨by first | rfl | exact ret_bool (decide_eq_false (by omega)), rfl⟩
set_option maxHeartbeats 4000000 in
theorem pmay_any (s : Sup) (hi : s.In) (w : World) : Calls Tryd.prog 31 #[s.arg] w fun e w' => e = .returned (.bool s.ok) ∧ Below w.heap.size w w' := by
  show Calls _ _ #[.agg #[.int .i64 s.ver, .int .i64 s.root, .int .i64 s.ep, .int .i64 s.pag]] _ _
  have HB := Lib.hid (below1 w (.cells #[.int .i64 s.ver, .int .i64 s.root, .int .i64 s.ep, .int .i64 s.pag] 23))
  have HY := Lib.hid (fun n h1 h2 W => pisv_yes n h1 h2 W)
  have HN := Lib.hid (fun n h W => pisv_no n h W)
  by_cases c1 : s.ver < 1 ∨ 1099511627776 < s.ver
  · have h : s.ok = false := decide_eq_false (by omega)
    rw [h]
    have C1 := Lib.hid c1
    clear c1
    go_enter Tryd.func31, Tryd.ntmps31
    go_wp2_with fail
    refine (HN.out _ C1.out _).mono ?_
    rintro e w' ⟨rfl, rfl⟩
    go_wp2_with fail
    go_ret
    exact ⟨rfl, HB.out⟩
  have C1 := Lib.hid (show 1 ≤ s.ver ∧ s.ver ≤ 1099511627776 by omega)
  by_cases c2 : s.ep < 1 ∨ 1099511627776 < s.ep
  · have h : s.ok = false := decide_eq_false (by omega)
    rw [h]
    have C2 := Lib.hid c2
    clear c1 c2
    go_enter Tryd.func31, Tryd.ntmps31
    go_wp2_with fail
    refine (HY.out _ C1.out.1 C1.out.2 _).mono ?_
    rintro e w' ⟨rfl, rfl⟩
    go_wp2_with fail
    refine (HN.out _ C2.out _).mono ?_
    rintro e w' ⟨rfl, rfl⟩
    go_wp2_with fail
    go_ret
    exact ⟨rfl, HB.out⟩
  have C2 := Lib.hid (show 1 ≤ s.ep ∧ s.ep ≤ 1099511627776 by omega)
  by_cases c3 : 16 ≤ s.pag ∧ s.pag ≤ 65536 ∧ 0 ≤ s.root ∧ s.root < s.pag
  · have h : s.ok = true := decide_eq_true (by omega)
    rw [h]
    obtain ⟨d1, d2, d3, d4⟩ := c3
    clear c1 c2
    go_enter Tryd.func31, Tryd.ntmps31
    go_wp2_with fail
    refine (HY.out _ C1.out.1 C1.out.2 _).mono ?_
    rintro e w' ⟨rfl, rfl⟩
    go_wp2_with fail
    refine (HY.out _ C2.out.1 C2.out.2 _).mono ?_
    rintro e w' ⟨rfl, rfl⟩
    go_wp2_with fail
    go_ret
    exact ⟨rfl, HB.out⟩
  · have h : s.ok = false := decide_eq_false (by omega)
    rw [h]
    have c3 : s.pag < 16 ∨ (16 ≤ s.pag ∧ 65536 < s.pag) ∨ (16 ≤ s.pag ∧ s.pag ≤ 65536 ∧ s.root < 0) ∨ (16 ≤ s.pag ∧ s.pag ≤ 65536 ∧ 0 ≤ s.root ∧ s.pag ≤ s.root) := by omega
    clear c1 c2
    rcases c3 with c3 | ⟨c3, c4⟩ | ⟨c3, c4, c5⟩ | ⟨c3, c4, c5, c6⟩
    all_goals
      go_enter Tryd.func31, Tryd.ntmps31
      go_wp2_with fail
      refine (HY.out _ C1.out.1 C1.out.2 _).mono ?_
      rintro e w' ⟨rfl, rfl⟩
      go_wp2_with fail
      refine (HY.out _ C2.out.1 C2.out.2 _).mono ?_
      rintro e w' ⟨rfl, rfl⟩
      go_wp2_with fail
    all_goals go_ret
    all_goals (refine ⟨?_, HB.out⟩; first | rfl | exact ret_bool (decide_eq_false (by omega)))
theorem pplace_any (s : Sup) (h0 : 0 ≤ s.ver) (p : Nat) (hp : s.ver % 2 = (p : Int)) (w : World) : Calls Tryd.prog 33 #[s.arg] w fun e w' => e = .returned (.int .i64 (p : Int)) ∧ Below w.heap.size w w' := by
  show Calls _ _ #[.agg #[.int .i64 s.ver, .int .i64 s.root, .int .i64 s.ep, .int .i64 s.pag]] _ _
  have HB := Lib.hid (below1 w (.cells #[.int .i64 s.ver, .int .i64 s.root, .int .i64 s.ep, .int .i64 s.pag] 23))
  have hrem : s.ver.tmod 2 = (p : Int) := by rw [Int.tmod_eq_emod_of_nonneg h0]; exact hp
  clear hp
  go_enter Tryd.func33, Tryd.ntmps33
  go_wp2_with fail
  go_ret
  exact ⟨rfl, HB.out⟩
/-- A superblock's numbers, as pointers into its box. -/
def ptr4 (g : Nat) : Array Value := #[.pointer (some ⟨g, 0, none⟩), .pointer (some ⟨g, 1, none⟩), .pointer (some ⟨g, 2, none⟩), .pointer (some ⟨g, 3, none⟩)]
theorem pnums_any (g : Nat) (w : World) : Calls Tryd.prog 55 #[.pointer (some ⟨g, 0, none⟩)] w fun e w' => e = .returned (.agg (ptr4 g)) ∧ Below w.heap.size w w' := by
  have HB := Lib.hid (below1 w (.cells #[.pointer none, .pointer none, .pointer none, .pointer none] 103))
  have HX := Lib.hid (heap_alloc_new w (.cells #[.pointer none, .pointer none, .pointer none, .pointer none] 103))
  unfold ptr4
  go_enter Tryd.func55, Tryd.ntmps55
  have q := row_cells HX.out
  have fr := box_frozen HX.out
  go_wp2_with fail
  go_region
  clear q fr HX HB
  have HB := Lib.hid (show Below w.heap.size w (w.alloc (.cells #[.pointer (some ⟨g, 0, none⟩), .pointer (some ⟨g, 1, none⟩), .pointer (some ⟨g, 2, none⟩), .pointer (some ⟨g, 3, none⟩)] 103)).drew from (below1 w _).drew)
  have q := row_cells (show (w.alloc (.cells #[.pointer (some ⟨g, 0, none⟩), .pointer (some ⟨g, 1, none⟩), .pointer (some ⟨g, 2, none⟩), .pointer (some ⟨g, 3, none⟩)] 103)).drew.heap[w.heap.size]? = _ from heap_alloc_new w _)
  go_wp2_with fail
  simp [bodyPost, results, Tryd.results55, go_sem, q]
  exact HB.out
end Go.Proofs.YtonjapphhbhcpaaDoor
namespace Go.Proofs.YtonjapphhbhcpaaDoor
open Go.RowKit
set_option maxRecDepth 100000

theorem info_ptr : (Tryd.prog.info? 102).map (fun i => (i.zero, i.size, i.bytes)) = some (some (.pointer none), 1, 8) := by kernel_rfl
theorem run_index_ptr (g k : Nat) (hk : k < 4) (w : World) :
    (Instr.index 103 (.agg #[.pointer (some ⟨g, 0, none⟩), .pointer (some ⟨g, 1, none⟩), .pointer (some ⟨g, 2, none⟩), .pointer (some ⟨g, 3, none⟩)]) (.int .i64 (k : Int))).run Tryd.prog w = .ok (.pointer (some ⟨g, k, none⟩)) w := by
  obtain ⟨i, hi, hz, hsz, hby⟩ := info_parts info_ptr
  obtain rfl | rfl | rfl | rfl : k = 0 ∨ k = 1 ∨ k = 2 ∨ k = 3 := by omega
  all_goals simp [Instr.index, run_underlying Tryd.underlying103, asIntOf, go_sem, sizeOf, typeInfo, hi, hsz]
/-- A row of the call's own, or one that has no room and is left alone. -/
def OpenB (w : World) (B S : Nat) (v : Value) (l : List Int) : Prop := (OwnB w B v l ∧ v.ownBlock ≠ some S) ∨ ∃ g, v = .slice (some ⟨g, 0, none⟩) l.length l.length ∧ InB w (some ⟨g, 0, none⟩) l
theorem OpenB.then_ {w w' : World} {B S : Nat} {v : Value} {l : List Int} (h : OpenB w B S v l) (hb : Below w.heap.size w w') : OpenB w' B S v l := by
  rcases h with ⟨h, h1⟩ | ⟨g, e, h⟩
  · exact .inl ⟨h.then_ hb, h1⟩
  · exact .inr ⟨g, e, h.then_ hb⟩
theorem InB.cells' {w : World} {g o : Nat} {l : List Int} (h : InB w (some ⟨g, o, none⟩) l) : ∀ j u, (btV l)[j]? = some u → w.cell? ((⟨g, o, none⟩ : Addr).add j) = some u := fun j u hj => by
  rw [btV, List.getElem?_map, Option.map_eq_some_iff] at hj
  obtain ⟨y, hy, rfl⟩ := hj
  obtain ⟨bb, oo, e, hc⟩ := h j y hy
  injection e with e
  injection e with e1 e2
  subst e1 e2
  rw [show (⟨g, o, none⟩ : Addr).add j = ⟨g, o + j, none⟩ by unfold Addr.add; split <;> simp_all]
  exact hc
theorem run_apO (w : World) (ty : TypeId) (B S : Nat) (v : Value) (l : List Int) (h : OpenB w B S v l) (hS : S < w.heap.size) (b : Option Addr) (n c : Nat) (bs : List Int) (hn : bs.length = n) (h1 : 1 ≤ n) (hb : InB w b bs) (hl : l.length + n ≤ 140737488355328) (hB : B ≤ w.heap.size) (w0 : World) (h0 : Below B w0 w) :
    ∃ v' w', (Builtin.append_ #[24, 24] ty #[v, .slice b n c]).run Tryd.prog w = .ok v' w' ∧ OwnB w' B v' (l ++ bs) ∧ v'.ownBlock ≠ some S ∧ w'.heap[S]? = w.heap[S]? ∧ Below B w0 w' := by
  rcases h with ⟨h, hv⟩ | ⟨g, rfl, h⟩
  · obtain ⟨v', w', hr, hg⟩ := run_apR w ty B v l h b n c bs hn hb (fun e => by
      obtain ⟨b2, o2, x, e2, -, -⟩ := hb.one (i := 0) (by omega)
      rw [e] at e2
      cases e2) hl hB
    exact ⟨v', w', hr, hg.own, fun e => hg.off hS (fun b' hb' e' => hv (by subst e'; exact hb')) _ e rfl, hg.grow.block _ hS (fun e => hv e.symm), hg.below h h0 (Nat.le_refl _) hB⟩
  · obtain ⟨b2, o2, x, rfl, -, -⟩ := hb.one (i := 0) (by omega)
    obtain ⟨i0, hi0, hz0, hz1, hz2⟩ := info_parts info_byte
    subst hn
    obtain ⟨v', w', hr, ho, hg⟩ := run_append_arg_grows (P := Tryd.prog) (w := w) 24 ty 5 i0 _ 1 1 Tryd.underlying24 hi0 hz0 hz1 hz2 rfl (by decide) ⟨g, 0, none⟩ l.length l.length (btV l) (by rw [btV_len]; omega) h.cells' ⟨b2, o2, none⟩ bs.length c (btV bs) (by rw [btV_len]; omega) hb.cells' (by omega) (by unfold maxLen; omega) (by omega)
    have ho' : OwnB w' w.heap.size v' (l ++ bs) := by
      unfold OwnB
      rw [List.length_append, btV_append]
      exact ho
    refine ⟨v', w', hr, ho'.base hB, fun e => ?_, hg.block _ hS (by simp), h0.grown hg hB (fun k hk => by cases hk)⟩
    have := (ho'.block _ e).1
    omega
theorem apO {ops : Array Oper} {rest : List Oper} {o : Oper} {a : Act} {w : World} {Q : Exit → Act → World → Prop} (hgd : o.guard = none) (s x : Operand)
    (ho : o.op = .call { callee := .builtin .append, args := #[s, x], argTypes := #[24, 24] }) (B S : Nat) (v : Value) (l : List Int) (hs : a.eval s = v) (h : OpenB w B S v l) (hS : S < w.heap.size) (b : Option Addr) (n c : Nat) (bs : List Int) (hx : a.eval x = .slice b n c) (hn : bs.length = n) (h1 : 1 ≤ n) (hb : InB w b bs) (hl : l.length + n ≤ 140737488355328) (hB : B ≤ w.heap.size) (w0 : World) (h0 : Below B w0 w)
    (hk : ∀ v' w', Hid (OwnB w' B v' (l ++ bs) ∧ v'.ownBlock ≠ some S ∧ w'.heap[S]? = w.heap[S]? ∧ Below B w0 w') → wpList Tryd.prog ops Q rest (a.put o.dst v') w') : wpList Tryd.prog ops Q (o :: rest) a w := by
  obtain ⟨v', w', hr, hall⟩ := run_apO w o.type B S v l h hS b n c bs hn h1 hb hl hB w0 h0
  exact wpList_ap hgd s x _ _ ho _ _ v' w' hs hx hr (hk v' w' (Lib.hid hall))
set_option maxHeartbeats 4000000 in
theorem pbody_any (s : Sup) (hok : s.ok = true) (w : World) : Calls Tryd.prog 34 #[s.arg] w fun e w' => ∃ v, e = .returned v ∧ OwnB w' w.heap.size v s.body ∧ Below w.heap.size w w' := by
  show Calls _ _ #[.agg #[.int .i64 s.ver, .int .i64 s.root, .int .i64 s.ep, .int .i64 s.pag]] _ _
  have HK := Lib.hid hok
  have HNM := Lib.hid (fun W => pnums_any w.heap.size W)
  unfold ptr4 at HNM
  clear hok
  have kc := Lib.run_convert_bytes_const (P := Tryd.prog) (w.alloc (.cells #[.int .i64 s.ver, .int .i64 s.root, .int .i64 s.ep, .int .i64 s.pag] 23)) 24 5 #[.int .u8 67, .int .u8 70, .int .u8 82, .int .u8 84] 4 4 Tryd.underlying24 Tryd.underlying5
  rw [World.size_alloc] at kc
  go_enter Tryd.func34, Tryd.ntmps34
  go_wp2_with fail
  clear kc
  have hb2 := below2 w (.cells #[.int .i64 s.ver, .int .i64 s.root, .int .i64 s.ep, .int .i64 s.pag] 23) (.cells #[.int .u8 67, .int .u8 70, .int .u8 82, .int .u8 84] 5 (4, 5))
  have ho2 : InB ((w.alloc (.cells #[.int .i64 s.ver, .int .i64 s.root, .int .i64 s.ep, .int .i64 s.pag] 23)).alloc (.cells #[.int .u8 67, .int .u8 70, .int .u8 82, .int .u8 84] 5 (4, 5))) (some ⟨w.heap.size + 1, 0, none⟩) signL := fun i x hx => ⟨w.heap.size + 1, 0, rfl, by
    have hc := row_cells (heap_alloc_at (w.alloc (.cells #[.int .i64 s.ver, .int .i64 s.root, .int .i64 s.ep, .int .i64 s.pag] 23)) (.cells #[.int .u8 67, .int .u8 70, .int .u8 82, .int .u8 84] 5 (4, 5)) (w.heap.size + 1) (by simp)) (0 + i)
    rw [hc, Nat.zero_add]
    have hl := lt_of_get hx
    simp only [signL, List.length_cons, List.length_nil] at hl
    match i, hl with
    | 0, _ => injection hx with hx; rw [← hx]; rfl
    | 1, _ => injection hx with hx; rw [← hx]; rfl
    | 2, _ => injection hx with hx; rw [← hx]; rfl
    | 3, _ => injection hx with hx; rw [← hx]; rfl⟩
  have hr2 : ((w.alloc (.cells #[.int .i64 s.ver, .int .i64 s.root, .int .i64 s.ep, .int .i64 s.pag] 23)).alloc (.cells #[.int .u8 67, .int .u8 70, .int .u8 82, .int .u8 84] 5 (4, 5))).heap[w.heap.size]? = some (.cells #[.int .i64 s.ver, .int .i64 s.root, .int .i64 s.ep, .int .i64 s.pag] 23) := row_then (heap_alloc_new w _) (below1 _ _)
  have H2 := Lib.hid (And.intro hb2 (And.intro ho2 hr2))
  clear hb2 ho2 hr2
  refine (HNM.out _).mono ?_
  rintro e w3 ⟨rfl, b3⟩
  have H3 := Lib.hid (And.intro (below_then H2.out.1 b3) (And.intro (H2.out.2.1.then_ b3) (row_then H2.out.2.2 b3)))
  clear b3 H2 HNM
  go_wp2_with fail
  go_loopw [3, 11] (fun v i wr => ∃ k : Nat, k ≤ 4 ∧ i = .int .i64 (k : Int) ∧ Hid (OpenB wr w.heap.size w.heap.size v (s.bodyK k) ∧ Below w.heap.size w wr ∧ wr.heap[w.heap.size]? = some (.cells #[.int .i64 s.ver, .int .i64 s.root, .int .i64 s.ep, .int .i64 s.pag] 23) ∧ (1 ≤ k → OwnB wr w.heap.size v (s.bodyK k)))) (fun _ i _ => 4 - (intOf i).toNat)
  case atStart => exact ⟨0, by omega, rfl, Lib.hid ⟨.inr ⟨_, rfl, H3.out.2.1⟩, H3.out.1, H3.out.2.2, fun h => absurd h (by decide)⟩⟩
  case round =>
    obtain ⟨k, hk, rfl, HR⟩ := hrel
    by_cases hlt : k < 4
    · obtain ⟨x, hx⟩ : ∃ x, s.nums[k]? = some x := ⟨_, List.getElem?_eq_getElem (by simpa [Sup.nums] using hlt)⟩
      have ck : wr.cell? ⟨w.heap.size, k, none⟩ = some (.int .i64 x) := by
        rw [row_cells HR.out.2.2.1]
        match k, hlt with
        | 0, _ => injection hx with hx; rw [← hx]; rfl
        | 1, _ => injection hx with hx; rw [← hx]; rfl
        | 2, _ => injection hx with hx; rw [← hx]; rfl
        | 3, _ => injection hx with hx; rw [← hx]; rfl
      have hix := run_index_ptr w.heap.size k hlt
      have HN := Lib.hid (sup_num HK.out hx)
      have HX := Lib.hid (Sup.bodyK_next hx)
      have HL := Lib.hid (s.bodyK_len k)
      clear hx
      go_wp2_with fail
      refine (pnumber_any x 8 HN.out.2.2 (by unfold okInt; omega) wr).mono ?_
      rintro e w4 ⟨v4, rfl, o4, b4⟩
      rw [HN.out.1] at o4
      rw [HN.out.2.1]
      obtain ⟨a4, c4, rfl, i4, n4, -, -⟩ := o4.shape
      have H4 := Lib.hid (And.intro i4 (And.intro n4 (And.intro b4 (HR.out.1.then_ b4))))
      have hBz : w.heap.size ≤ w4.heap.size := Nat.le_trans HR.out.2.1.size b4.size
      rw [leB_len]
      clear o4 b4 i4 n4 hix ck
      go_wp2_with (at_builtin; refine apO rfl (.tmp 21) (.tmp 22) rfl w.heap.size w.heap.size _ _ rfl H4.out.2.2.2 (Nat.lt_of_lt_of_le (lt_of_block HR.out.2.2.1) H4.out.2.2.1.size) _ _ _ (leB 8 x) rfl (leB_len _ _) (by decide) H4.out.1 (by have := HL.out; omega) hBz w (below_then HR.out.2.1 H4.out.2.2.1) ?_; intro v5 w5 G5)
      go_roundw
      case rel => exact ⟨k + 1, by omega, by go_num, Lib.hid ⟨.inl ⟨by rw [HX.out]; exact G5.out.1, G5.out.2.1⟩, G5.out.2.2.2, G5.out.2.2.1.trans ((H4.out.2.2.1.block _ (lt_of_block HR.out.2.2.1)).trans HR.out.2.2.1), fun _ => by rw [HX.out]; exact G5.out.1⟩⟩
      case measure => simp [intOf]; omega
    · have hk4 : k = 4 := by omega
      subst hk4
      go_wp2_with fail
      go_ret
      exact ⟨_, rfl, by rw [← Sup.bodyK_all]; exact HR.out.2.2.2 (by decide), HR.out.2.1⟩
end Go.Proofs.YtonjapphhbhcpaaDoor
namespace Go.Proofs.YtonjapphhbhcpaaDoor
open Go.RowKit
set_option maxRecDepth 100000

/-- What a body says, or nothing. -/
def tolS (x : List Int) : Sup := if supGood x = true then supOf x else Sup.zero
/-- The first k numbers, the others 0. -/
def supK (x : List Int) (k : Nat) : Sup := ⟨if 0 < k then readP x 4 8 else 0, if 1 < k then readP x 12 8 else 0, if 2 < k then readP x 20 8 else 0, if 3 < k then readP x 28 8 else 0⟩
theorem supK_next (x : List Int) {k : Nat} (h : k < 4) : (supK x k).cells.setIfInBounds k (.int .i64 (readP x (4 + 8 * (k : Int)) 8)) = (supK x (k + 1)).cells := by
  match k, h with
  | 0, _ => rfl
  | 1, _ => rfl
  | 2, _ => rfl
  | 3, _ => rfl
theorem supK_all (x : List Int) : supK x 4 = supOf x := rfl
def ToldTo (x : List Int) (w : World) (e : Ending) (w' : World) : Prop := e = .returned (.tuple #[(tolS x).arg, .bool (supGood x)]) ∧ Below w.heap.size w w'
theorem ToldTo.bad {x : List Int} {w w' : World} (h : supGood x = false) (hb : Below w.heap.size w w') : ToldTo x w (.returned (.tuple #[.agg #[.int .i64 0, .int .i64 0, .int .i64 0, .int .i64 0], .bool false])) w' :=
  ⟨by unfold tolS; rw [h, if_neg (by decide)]; rfl, hb⟩
theorem not_good {x : List Int} (h : ¬ supGood x = true) : supGood x = false := by simpa using h
set_option maxHeartbeats 8000000 in
theorem ptold_any (la : Option Addr) (n c : Nat) (x : List Int) (w : World) (hin : InB w la x) (hB : isB x) (hn : x.length = n) (hc : n ≤ c) (hl : n ≤ 140737488351232) :
    Calls Tryd.prog 39 #[.slice la n c] w (ToldTo x w) := by
  have HA := Lib.hid (And.intro hin (And.intro hB hn))
  have HB := Lib.hid (below1 w (.cells #[.int .i64 0, .int .i64 0, .int .i64 0, .int .i64 0] 23))
  have hx := heap_alloc_new w (.cells #[.int .i64 0, .int .i64 0, .int .i64 0, .int .i64 0] 23)
  have HX := Lib.hid hx
  have c0 := row_cells hx
  have f0 := box_frozen hx
  clear hin hB hx
  by_cases h36 : n = 36
  rotate_left
  · have hne : ((n : Int) != 36) = true := by simp; omega
    have HE := Lib.hid (show supGood x = false from not_good fun h => by
      unfold supGood at h
      simp [HA.out.2.2, h36] at h)
    clear h36 hn
    go_enter Tryd.func39, Tryd.ntmps39
    go_wp2_with fail
    clear f0
    simp [bodyPost, results, Tryd.results39, go_sem, c0]
    exact ToldTo.bad HE.out HB.out
  subst h36
  obtain ⟨b, o, x0, rfl, -, -⟩ := HA.out.1.one (i := 0) (by rw [HA.out.2.2]; omega)
  have hcv := run_str (w.alloc (.cells #[.int .i64 0, .int .i64 0, .int .i64 0, .int .i64 0] 23)) (some ⟨b, o, none⟩) 4 c (x.take 4) (by rw [List.length_take, HA.out.2.2]; rfl) ((HA.out.1.then_ HB.out).take_ 4) (fun e => by cases e)
  clear hn
  by_cases hs : x.take 4 = signL
  rotate_left
  · have HE := Lib.hid (show supGood x = false from not_good fun h => by
      unfold supGood at h
      simp [hs] at h)
    have hne : ((strOfNums (x.take 4)).toList == [67, 70, 82, 84]) = false := by
      cases hc : ((strOfNums (x.take 4)).toList == [67, 70, 82, 84]) with
      | false => rfl
      | true =>
        have e1 := bsI_str (l := x.take 4) (HA.out.2.1.take' 4)
        have e2 := eq_of_beq hc
        rw [ByteArray.toList_eq] at e2
        unfold bsI at e1
        rw [e2] at e1
        exact absurd e1.symm hs
    generalize strOfNums (x.take 4) = S at *
    clear hs
    go_enter Tryd.func39, Tryd.ntmps39
    go_wp2_with fail
    clear f0
    simp [bodyPost, results, Tryd.results39, go_sem, c0]
    exact ToldTo.bad HE.out HB.out
  have heq : ((strOfNums (x.take 4)).toList == [67, 70, 82, 84]) = true := by rw [hs]; decide +kernel
  have HSG := Lib.hid hs
  generalize strOfNums (x.take 4) = S at *
  have HNM := Lib.hid (fun W => pnums_any (w.heap.size + 1) W)
  unfold ptr4 at HNM
  clear hs
  go_enter Tryd.func39, Tryd.ntmps39
  go_wp2_with fail
  refine (HNM.out _).mono ?_
  rintro e w1 ⟨rfl, b1⟩
  have hb2 := below_then (below2 w (.cells #[.int .i64 0, .int .i64 0, .int .i64 0, .int .i64 0] 23) (.cells #[.int .i64 0, .int .i64 0, .int .i64 0, .int .i64 0] 23)) b1
  have hR := row_then (row_then HX.out (below1 _ (.cells #[.int .i64 0, .int .i64 0, .int .i64 0, .int .i64 0] 23))) b1
  have hS := row_then (heap_alloc_at (w.alloc (.cells #[.int .i64 0, .int .i64 0, .int .i64 0, .int .i64 0] 23)) (.cells #[.int .i64 0, .int .i64 0, .int .i64 0, .int .i64 0] 23) (w.heap.size + 1) (by simp)) b1
  have H1 := Lib.hid (And.intro hb2 (And.intro hR hS))
  clear hb2 hR hS b1 HNM c0 f0 hcv heq
  go_wp2_with fail
  have HO2 := Lib.hid (readP_ok (x := x) HA.out.2.1)
  go_loopw [20] (fun i wr => ∃ k : Nat, k ≤ 4 ∧ i = .int .i64 (k : Int) ∧ Hid (Below w.heap.size w wr ∧ wr.heap[w.heap.size]? = some (.cells #[.int .i64 0, .int .i64 0, .int .i64 0, .int .i64 0] 23) ∧ wr.heap[w.heap.size + 1]? = some (.cells (supK x k).cells 23) ∧ ∀ j : Nat, j < k → readE x (4 + 8 * (j : Int)) 8 = 0)) (fun i _ => 4 - (intOf i).toNat)
  case atStart => exact ⟨0, by omega, rfl, Lib.hid ⟨H1.out.1, H1.out.2.1, H1.out.2.2, fun j hj => by omega⟩⟩
  case round =>
    obtain ⟨k, hk, rfl, HR⟩ := hrel
    have f3 := box_frozen HR.out.2.1
    have r0 := row_cells HR.out.2.1 0
    have r1 := row_cells HR.out.2.1 1
    have r2 := row_cells HR.out.2.1 2
    have r3 := row_cells HR.out.2.1 3
    by_cases hlt : k < 4
    · have hix := run_index_ptr (w.heap.size + 1) k hlt
      obtain ⟨t, ht⟩ : ∃ t : Nat, 4 + (k : Int) * 8 = (t : Int) := ⟨4 + k * 8, by omega⟩
      have ht8 : 4 + 8 * (k : Int) = (t : Int) := by omega
      have HT := Lib.hid ht8
      have HC := Lib.hid (pread_any (some ⟨b, o, none⟩) c 36 x (t : Int) 8 wr (HA.out.1.then_ HR.out.1) HA.out.2.1 HA.out.2.2 (by omega) hc (by unfold okInt; omega) (by unfold okInt; omega))
      unfold ReadTo at HC
      have fS := box_frozen HR.out.2.2.1
      obtain ⟨old, hold⟩ : ∃ v, wr.cell? ⟨w.heap.size + 1, k, none⟩ = some v := by
        rw [row_cells HR.out.2.2.1]
        exact ⟨_, Array.getElem?_eq_getElem (by simpa [Sup.cells] using hlt)⟩
      have HN := Lib.hid (supK_next x hlt)
      clear ht8
      go_wp2_with fail
      refine HC.out.mono ?_
      rintro e w4 ⟨rfl, rfl⟩
      by_cases hr : readE x (t : Int) 8 = 0
      · have HRE := Lib.hid hr
        rw [hr]
        clear hr HC
        obtain ⟨y, hy⟩ : ∃ y, readP x (t : Int) 8 = y := ⟨_, rfl⟩
        have HY := Lib.hid hy
        rw [hy]
        clear hy f3 r0 r1 r2 r3
        go_wp2_with fail
        go_roundw
        case rel =>
          have hst := set_heap (i := k) HR.out.2.2.1 (.int .i64 y)
          rw [HT.out, HY.out] at HN
          rw [HN.out] at hst
          exact ⟨k + 1, by omega, by go_num, Lib.hid ⟨HR.out.1.setCell (p := ⟨w.heap.size + 1, k, none⟩) (by show w.heap.size ≤ w.heap.size + 1; omega) _, (set_off wr (i := k) (.int .i64 y) (show w.heap.size ≠ w.heap.size + 1 by omega)).trans HR.out.2.1, hst, fun j hj => by
            rcases Nat.lt_or_ge j k with h | h
            · exact HR.out.2.2.2 j h
            · rw [show j = k by omega, HT.out]; exact HRE.out⟩⟩
        case measure => simp [intOf]; omega
      · have hrn : (readE x (t : Int) 8 != 0) = true := by simp [hr]
        have HE := Lib.hid (show supGood x = false from not_good fun h => by
          have h2 := supGood_read h hlt
          rw [HT.out] at h2
          exact hr h2)
        clear hr HC
        go_wp2_with fail
        generalize hV : World.setCell _ _ _ = V
        obtain ⟨t1, t2⟩ := put4V HR.out.2.1 hV
        have q := row_cells t2
        have HF := Lib.hid ((Only.of_below (S := []) HR.out.1).then_ t1 (fun z hz => .inr (by rw [List.mem_singleton.1 hz]; exact Nat.le_refl _))).below
        clear hV t1 t2 r0 r1 r2 r3 f3
        simp [bodyPost, results, Tryd.results39, go_sem, q]
        exact ToldTo.bad HE.out HF.out
    · have hk4 : k = 4 := by omega
      subst hk4
      have HG := Lib.hid (supGood_of HA.out.2.2 HSG.out HR.out.2.2.2)
      have hS := HR.out.2.2.1
      rw [supK_all] at hS
      have HT2 : Hid (tolS x = supOf x) := Lib.hid (by unfold tolS; rw [if_pos HG.out])
      generalize supOf x = s at *
      obtain ⟨s0, s1, s2, s3⟩ := box4_cells hS
      clear hS
      go_wp2_with fail
      generalize hV : World.setCell _ _ _ = V
      obtain ⟨t1, t2⟩ := put4V HR.out.2.1 hV
      have q := row_cells t2
      have HF := Lib.hid ((Only.of_below (S := []) HR.out.1).then_ t1 (fun z hz => .inr (by rw [List.mem_singleton.1 hz]; exact Nat.le_refl _))).below
      clear hV t1 t2 r0 r1 r2 r3 f3 s0 s1 s2 s3
      simp [bodyPost, results, Tryd.results39, go_sem, q]
      exact ⟨by rw [HT2.out, HG.out]; rfl, HF.out⟩
end Go.Proofs.YtonjapphhbhcpaaDoor
