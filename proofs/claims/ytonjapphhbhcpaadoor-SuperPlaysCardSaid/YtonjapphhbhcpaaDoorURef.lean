/- The document's own superblock: May, Body, Make. No statement is proved here. -/
import Derived.Test.YtonjapphhbhcpaaDoorUPure
namespace Go.Proofs.YtonjapphhbhcpaaDoor
open Go.RowKit
set_option maxRecDepth 100000

def Sup.cells (s : Sup) : Array Value := #[.int .i64 s.ver, .int .i64 s.root, .int .i64 s.ep, .int .i64 s.pag]
def Sup.arg (s : Sup) : Value := .agg s.cells
structure Sup.In (s : Sup) : Prop where
  ver : okInt s.ver
  root : okInt s.root
  ep : okInt s.ep
  pag : okInt s.pag
theorem Sup.In.zero : Sup.zero.In := by constructor <;> simp [Sup.zero, okInt]
def Sup.nums (s : Sup) : List Int := [s.ver, s.root, s.ep, s.pag]
def Sup.bodyK (s : Sup) (k : Nat) : List Int := signL ++ (s.nums.take k).flatMap (leB 8)
theorem Sup.bodyK_next {s : Sup} {k : Nat} {x : Int} (h : s.nums[k]? = some x) : s.bodyK (k + 1) = s.bodyK k ++ leB 8 x := by
  unfold Sup.bodyK
  rw [List.take_add_one, h]
  simp
theorem Sup.bodyK_len (s : Sup) (k : Nat) : (s.bodyK k).length ≤ 36 := by
  unfold Sup.bodyK
  have h : ∀ l : List Int, (l.flatMap (leB 8)).length = 8 * l.length := fun l => by
    induction l with
    | nil => rfl
    | cons x l ih => rw [List.flatMap_cons, List.length_append, leB_len, ih, List.length_cons]; omega
  rw [List.length_append, h, List.length_take]
  simp [signL, Sup.nums]
  omega
theorem Sup.bodyK_all (s : Sup) : s.bodyK 4 = s.body := by
  unfold Sup.bodyK Sup.body Sup.nums
  simp
theorem sup_num {s : Sup} (h : s.ok = true) {k : Nat} {x : Int} (hx : s.nums[k]? = some x) : numL x 8 = leB 8 x ∧ numE x 8 = 0 ∧ okInt x := by
  have h1 := Sup.ok_yes h
  have hx' : 0 ≤ x ∧ x ≤ 1099511627776 := by
    have hm := List.mem_of_getElem? hx
    simp [Sup.nums] at hm
    omega
  have p8 : (256 : Int) ^ 8 = 18446744073709551616 := by decide
  refine ⟨numL_ok (s := 8) (by omega) (by omega) hx'.1 (by omega), ?_, by unfold okInt; omega⟩
  have hk : okN x 8 = true := decide_eq_true ⟨by omega, by omega, hx'.1, by show x / 256 ^ 8 = 0; exact Int.ediv_eq_zero_of_lt hx'.1 (by omega)⟩
  unfold numE
  rw [hk]
  rfl
set_option maxHeartbeats 4000000 in
theorem rmay_any (s : Sup) (hi : s.In) (w : World) : Calls Tryd.prog 35 #[s.arg] w fun e w' => e = .returned (.bool s.ok) ∧ Below w.heap.size w w' := by
  show Calls _ _ #[.agg #[.int .i64 s.ver, .int .i64 s.root, .int .i64 s.ep, .int .i64 s.pag]] _ _
  have HB := Lib.hid (below1 w (.cells #[.int .i64 s.ver, .int .i64 s.root, .int .i64 s.ep, .int .i64 s.pag] 23))
  cases h : s.ok with
  | false =>
    rcases Sup.ok_no h with h1 | h1 | h1 | h1 | h1 | h1 | h1 | h1
    all_goals
      clear h
      go_enter Tryd.func35, Tryd.ntmps35
      go_wp2_with fail
    all_goals go_ret
    all_goals (refine ⟨?_, HB.out⟩; first | rfl | exact ret_bool (decide_eq_false (by omega)))
  | true =>
    obtain ⟨a1, a2, a3, a4, a5, a6, a7, a8⟩ := Sup.ok_yes h
    clear h
    go_enter Tryd.func35, Tryd.ntmps35
    go_wp2_with fail
    go_ret
    exact ⟨rfl, HB.out⟩
set_option maxHeartbeats 4000000 in
theorem rbody_any (s : Sup) (hok : s.ok = true) (w : World) : Calls Tryd.prog 37 #[s.arg] w fun e w' => ∃ v, e = .returned v ∧ OwnB w' w.heap.size v s.body ∧ Below w.heap.size w w' := by
  show Calls _ _ #[.agg #[.int .i64 s.ver, .int .i64 s.root, .int .i64 s.ep, .int .i64 s.pag]] _ _
  have HK := Lib.hid hok
  clear hok
  go_enter Tryd.func37, Tryd.ntmps37
  go_wp2_with fail
  have hb3 := below3 w (.cells #[.int .i64 s.ver, .int .i64 s.root, .int .i64 s.ep, .int .i64 s.pag] 23) (.cells #[.int .u8 67, .int .u8 70, .int .u8 82, .int .u8 84] 5) (.cells #[.int .i64 s.ver, .int .i64 s.root, .int .i64 s.ep, .int .i64 s.pag] 3)
  have ho3 : OwnB (((w.alloc (.cells #[.int .i64 s.ver, .int .i64 s.root, .int .i64 s.ep, .int .i64 s.pag] 23)).alloc (.cells #[.int .u8 67, .int .u8 70, .int .u8 82, .int .u8 84] 5)).alloc (.cells #[.int .i64 s.ver, .int .i64 s.root, .int .i64 s.ep, .int .i64 s.pag] 3)) w.heap.size (.slice (some ⟨w.heap.size + 1, 0, none⟩) 4 4) signL := by
    have h := (OwnB.lit (w.alloc (.cells #[.int .i64 s.ver, .int .i64 s.root, .int .i64 s.ep, .int .i64 s.pag] 23)) signL (by decide)).base (B' := w.heap.size) (by simp)
    have h2 := h.alloc (.cells #[.int .i64 s.ver, .int .i64 s.root, .int .i64 s.ep, .int .i64 s.pag] 3)
    simpa [signL, btV] using h2
  have hr3 : (((w.alloc (.cells #[.int .i64 s.ver, .int .i64 s.root, .int .i64 s.ep, .int .i64 s.pag] 23)).alloc (.cells #[.int .u8 67, .int .u8 70, .int .u8 82, .int .u8 84] 5)).alloc (.cells #[.int .i64 s.ver, .int .i64 s.root, .int .i64 s.ep, .int .i64 s.pag] 3)).heap[w.heap.size + 2]? = some (.cells #[.int .i64 s.ver, .int .i64 s.root, .int .i64 s.ep, .int .i64 s.pag] 3) := heap_alloc_at _ _ _ (by simp)
  generalize hw3 : ((w.alloc (.cells #[.int .i64 s.ver, .int .i64 s.root, .int .i64 s.ep, .int .i64 s.pag] 23)).alloc (.cells #[.int .u8 67, .int .u8 70, .int .u8 82, .int .u8 84] 5)).alloc (.cells #[.int .i64 s.ver, .int .i64 s.root, .int .i64 s.ep, .int .i64 s.pag] 3) = w3 at *
  have H3 := Lib.hid (And.intro hb3 (And.intro ho3 hr3))
  clear hb3 ho3 hr3 hw3
  go_loopw [3, 5] (fun v i wr => ∃ k : Nat, k ≤ 4 ∧ i = .int .i64 (k : Int) ∧ Hid (OwnB wr w.heap.size v (s.bodyK k) ∧ Below w.heap.size w wr ∧ wr.heap[w.heap.size + 2]? = some (.cells #[.int .i64 s.ver, .int .i64 s.root, .int .i64 s.ep, .int .i64 s.pag] 3) ∧ v.ownBlock ≠ some (w.heap.size + 2))) (fun _ i _ => 4 - (intOf i).toNat)
  case atStart => exact ⟨0, by omega, rfl, Lib.hid ⟨by simpa [Sup.bodyK] using H3.out.2.1, H3.out.1, H3.out.2.2, by simp [Value.ownBlock]⟩⟩
  case round =>
    obtain ⟨k, hk, rfl, HR⟩ := hrel
    by_cases hlt : k < 4
    · obtain ⟨x, hx⟩ : ∃ x, s.nums[k]? = some x := ⟨_, List.getElem?_eq_getElem (by simpa [Sup.nums] using hlt)⟩
      have ck : wr.cell? ⟨w.heap.size + 2, k, none⟩ = some (.int .i64 x) := by
        rw [row_cells HR.out.2.2.1]
        match k, hlt with
        | 0, _ => injection hx with hx; rw [← hx]; rfl
        | 1, _ => injection hx with hx; rw [← hx]; rfl
        | 2, _ => injection hx with hx; rw [← hx]; rfl
        | 3, _ => injection hx with hx; rw [← hx]; rfl
      have HN := Lib.hid (sup_num HK.out hx)
      have HX := Lib.hid (Sup.bodyK_next hx)
      have HL := Lib.hid (s.bodyK_len k)
      clear hx
      go_wp2_with fail
      refine (refNumber_any x 8 HN.out.2.2 wr).mono ?_
      rintro e w4 ⟨v4, rfl, o4, b4⟩
      rw [HN.out.1] at o4
      rw [HN.out.2.1]
      obtain ⟨a4, c4, rfl, i4, n4, -, -⟩ := o4.shape
      have H4 := Lib.hid (And.intro i4 (And.intro n4 (And.intro b4 (HR.out.1.then_ b4))))
      have hBz : w.heap.size ≤ w4.heap.size := Nat.le_trans HR.out.2.1.size b4.size
      rw [leB_len]
      clear o4 b4 i4 n4
      go_wp2_with (at_builtin; refine apR rfl (.tmp 30) (.tmp 31) rfl w.heap.size _ _ rfl H4.out.2.2.2 _ _ _ (leB 8 x) rfl (leB_len _ _) H4.out.1 H4.out.2.1 (by have := HL.out; omega) hBz ?_; intro v5 w5 hg; have G5 := Lib.hid hg; clear hg)
      go_roundw
      case rel =>
        refine ⟨k + 1, by omega, by go_num, Lib.hid ⟨by rw [HX.out]; exact G5.out.own, (G5.out.below H4.out.2.2.2 (below_then HR.out.2.1 H4.out.2.2.1) (Nat.le_refl _) hBz), ?_, ?_⟩⟩
        · exact G5.out.row ((H4.out.2.2.1.block _ (lt_of_block HR.out.2.2.1)).trans HR.out.2.2.1) (fun b hb e => HR.out.2.2.2 (by subst e; exact hb))
        · intro e
          exact G5.out.off (Nat.lt_of_lt_of_le (lt_of_block HR.out.2.2.1) H4.out.2.2.1.size) (fun b hb e' => HR.out.2.2.2 (by subst e'; exact hb)) _ e rfl
      case measure => simp [intOf]; omega
    · have hk4 : k = 4 := by omega
      subst hk4
      go_wp2_with fail
      go_ret
      exact ⟨_, rfl, by rw [← Sup.bodyK_all]; exact HR.out.1, HR.out.2.1⟩
end Go.Proofs.YtonjapphhbhcpaaDoor
