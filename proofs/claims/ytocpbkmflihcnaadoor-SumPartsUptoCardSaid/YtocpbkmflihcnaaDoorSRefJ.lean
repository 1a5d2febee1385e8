/- The document's own Join and what it stands on: contracts. No statement is proved here. -/
import Derived.Test.YtocpbkmflihcnaaDoorSRef
import Derived.Test.YtocpbkmflihcnaaDoorSTimes
namespace Go.Proofs.YtocpbkmflihcnaaDoor
open Go.RowKit
set_option maxRecDepth 100000

theorem refSum_any (a : Option Addr) (c n : Nat) (l : List Int) (w : World) (ha : InB w a l) (hB : isB l) (hn : l.length = n) (hl : n ≤ 140737488351232) :
    Calls Tryd.prog 16 #[.slice a n c] w fun e w' => e = .returned (.int .i64 (moreP 0 l)) ∧ w = w' := by
  have HM := Lib.hid (refMore_any 0 a c n l w ha hB hn hl)
  clear ha hB hn
  go_enter Tryd.func16, Tryd.ntmps16
  go_wp2_with (go_at_call 15; refine HM.out.mono ?_; rintro e w' ⟨rfl, rfl⟩)
  go_ret
  exact ⟨rfl, rfl⟩
/-- Numbers of 32 bits as values, and where they lie. -/
def wdV (l : List Nat) : List Value := l.map fun (x : Nat) => Value.int .u32 (x : Int)
theorem wdV_len (l : List Nat) : (wdV l).length = l.length := List.length_map _
theorem wdV_append (a b : List Nat) : wdV (a ++ b) = wdV a ++ wdV b := List.map_append
/-- A row of such numbers of a call's own. -/
def OwnW (w : World) (B : Nat) (v : Value) (l : List Nat) : Prop := w.ownsRow B 45 1 v l.length (wdV l)
theorem info_word : (Tryd.prog.info? 45).map (fun i => (i.zero, i.size, i.bytes)) = some (some (.int .u32 0), 1, 4) := by kernel_rfl
theorem OwnW.cell {w : World} {B n c : Nat} {a : Option Addr} {l : List Nat} (h : OwnW w B (.slice a n c) l) {i x : Nat} (hx : l[i]? = some x) : ∃ g, a = some ⟨g, 0, none⟩ ∧ B ≤ g ∧ n = l.length ∧ w.cell? ⟨g, i, none⟩ = some (.int .u32 x) := by
  have h0 := h
  obtain ⟨h1, h2⟩ := h
  have hi := lt_of_get hx
  rcases h2 with ⟨hv, hz⟩ | ⟨g, cap, cur, hv, hb, hg, hle, hcm, hrest⟩
  · omega
  · injection hv with e1 e2 e3
    subst e1 e2 e3
    refine ⟨g, rfl, hb, rfl, ?_⟩
    rw [World.ownsRow.cellAt h0 i (by omega), wdV, List.getElem?_map, hx]
    rfl
set_option maxHeartbeats 800000 in
theorem times_any (g c r : Nat) (m : List Nat) (w : World) (hm : m.length = 32) (hx : ∀ x ∈ m, x < 4294967296) (hr : r < 4294967296) (hc : ∀ i x, m[i]? = some x → w.cell? ⟨g, i, none⟩ = some (.int .u32 (x : Nat))) :
    Calls Tryd.prog 29 #[.slice (some ⟨g, 0, none⟩) 32 c, .int .u32 (r : Int)] w fun e w' => e = .returned (.int .u32 (timesN m r : Nat)) ∧ w = w' := by
  have HC := Lib.hid (And.intro hc (And.intro hm hx))
  clear hc hm hx
  go_enter Tryd.func29, Tryd.ntmps29
  go_wp2
  go_loop [1, 5, 6] (fun u v i => ∃ (k q o : Nat), k ≤ 32 ∧ i = .int .i64 k ∧ u = .int .u32 q ∧ q < 4294967296 ∧ v = .int .u32 o ∧ o < 4294967296 ∧ q = r / 2 ^ k ∧ o = timesN (m.take k) r) (fun _ _ i => 32 - (intOf i).toNat)
  case atStart => exact ⟨0, r, 0, by omega, rfl, rfl, hr, rfl, by omega, by simp, rfl⟩
  case round =>
    obtain ⟨k, q, o, hk, rfl, rfl, hq, rfl, ho, e1, e2⟩ := hrel
    have HE := Lib.hid (And.intro e1 e2)
    clear e1 e2
    by_cases hlt : k < 32
    · obtain ⟨x, hmx⟩ : ∃ x, m[k]? = some x := ⟨_, List.getElem?_eq_getElem (by rw [HC.out.2.1]; exact hlt)⟩
      have HN := Lib.hid (timesN_next (r := r) hmx)
      have hx0 := HC.out.1 k x hmx
      have hxl := HC.out.2.2 x (List.mem_of_getElem? hmx)
      clear hmx
      by_cases hp : q % 2 = 1
      · have hb : (((q : Int) % 2) == 1) = true := by simp; omega
        have HX := Lib.hid (xor32 o x ho hxl)
        go_wp2
        go_round
        case rel =>
          refine ⟨k + 1, q / 2, o ^^^ x, by omega, by go_num, rfl, by omega, by rw [HX.out], Nat.xor_lt_two_pow (n := 32) ho hxl, by rw [HE.out.1, square_half], ?_⟩
          rw [HN.out, ← HE.out.1, if_pos hp, HE.out.2]
        case measure => simp [intOf]; omega
      · have hb : (((q : Int) % 2) == 1) = false := by simp; omega
        go_wp2
        go_round
        case rel =>
          refine ⟨k + 1, q / 2, o, by omega, by go_num, rfl, by omega, rfl, ho, by rw [HE.out.1, square_half], ?_⟩
          rw [HN.out, ← HE.out.1, if_neg hp, HE.out.2, Nat.xor_zero]
        case measure => simp [intOf]; omega
    · have hk32 : k = 32 := by omega
      have HT := Lib.hid (show m.take k = m from List.take_of_length_le (by rw [HC.out.2.1]; omega))
      subst hk32
      go_wp2
      go_ret
      exact ⟨ret_int (by rw [HE.out.2, HT.out]), rfl⟩
end Go.Proofs.YtocpbkmflihcnaaDoor
