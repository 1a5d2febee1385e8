/- The program's own Number: its contract. No statement is proved here. -/
import Derived.Test.YtlpnhfceblbllaaDoorSProg1
import Derived.Test.YtlpnhfceblbllaaDoorSNum
namespace Go.Proofs.YtlpnhfceblbllaaDoor
open Go.RowKit
set_option maxRecDepth 100000

/-- The row so far: the lowest bytes, and what was there. -/
def FilledV (m : Int) (k s : Nat) (xs : List Value) : Prop := ∃ rest, rest.length + k = s ∧ xs = btV (leB k m) ++ rest
theorem FilledV.next {m : Int} {k s : Nat} {xs : List Value} (h : FilledV m k s xs) (hk : k < s) : FilledV m (k + 1) s (xs.set k (.int .u8 (m / 256 ^ k % 256))) := by
  obtain ⟨rest, hr, rfl⟩ := h
  cases rest with
  | nil => simp at hr; omega
  | cons y rest =>
    refine ⟨rest, by simp at hr; omega, ?_⟩
    have e : (btV (leB k m)).length = k := by rw [btV_len, leB_len]
    rw [List.set_append_right _ _ (by omega), e, Nat.sub_self, List.set_cons_zero, leB_snoc, btV_append, List.append_assoc]
    rfl
theorem FilledV.all {m : Int} {s : Nat} {xs : List Value} (h : FilledV m s s xs) : xs = btV (leB s m) := by
  obtain ⟨rest, hr, rfl⟩ := h
  have : rest = [] := List.eq_nil_of_length_eq_zero (by omega)
  subst this
  rw [List.append_nil]
theorem FilledV.len {m : Int} {k s : Nat} {xs : List Value} (h : FilledV m k s xs) : xs.length = s := by
  obtain ⟨rest, hr, rfl⟩ := h
  rw [List.length_append, btV_len, leB_len]; omega
theorem isSize_any (s : Int) (w : World) : Calls Tryd.prog 63 #[.int .i64 s] w fun e w' => e = .returned (.bool (decide (1 ≤ s ∧ s ≤ 8))) ∧ w = w' := by
  by_cases h1 : 1 ≤ s
  · by_cases h2 : s ≤ 8
    · rw [decide_eq_true (show 1 ≤ s ∧ s ≤ 8 from ⟨h1, h2⟩)]
      go_enter Tryd.func63, Tryd.ntmps63
      go_wp2
      go_ret
      exact ⟨rfl, rfl⟩
    · rw [decide_eq_false (show ¬ (1 ≤ s ∧ s ≤ 8) by omega)]
      go_enter Tryd.func63, Tryd.ntmps63
      go_wp2
      go_ret
      exact ⟨rfl, rfl⟩
  · rw [decide_eq_false (show ¬ (1 ≤ s ∧ s ≤ 8) by omega)]
    go_enter Tryd.func63, Tryd.ntmps63
    go_wp2
    go_ret
    exact ⟨rfl, rfl⟩
theorem pow8 (k : Nat) : (2 : Int) ^ (8 * k) = 256 ^ k := by rw [Int.pow_mul]; rfl
set_option maxHeartbeats 2000000 in
theorem pnumber_any (n size : Int) (hn : okInt n) (hs : okInt size) (w : World) : Calls Tryd.prog 50 #[.int .i64 n, .int .i64 size] w (NumTo n size w) := by
  have HS := Lib.hid (isSize_any size)
  unfold okInt at hn hs
  by_cases h1 : 1 ≤ size ∧ size ≤ 8
  · rw [decide_eq_true h1] at HS
    by_cases h3 : n < 0
    · have hk : okN n size = false := decide_eq_false (by omega)
      have HE : NumTo n size w (.returned (.tuple #[.slice none 0 0, .int .i64 1])) w := ⟨_, by rw [numE, hk]; rfl, by rw [numL, hk]; exact OwnB.nil _ _, Below.refl _ _⟩
      clear hk
      have HE := Lib.hid HE
      go_enter Tryd.func50, Tryd.ntmps50
      go_wp2_with (go_at_call 63; refine (HS.out _).mono ?_; rintro e w' ⟨rfl, rfl⟩)
      go_ret2
      exact HE.out
    · obtain ⟨s, rfl⟩ := Int.eq_ofNat_of_zero_le (show 0 ≤ size by omega)
      obtain ⟨m, rfl⟩ := Int.eq_ofNat_of_zero_le (show 0 ≤ n by omega)
      have hs1 : 1 ≤ s := by omega
      have hs8 : s ≤ 8 := by omega
      have hd : decide ((m : Int) < 0) = false := decide_eq_false (by omega)
      by_cases hz : (m : Int) / 2 ^ (8 * s) = 0
      · have hz' : ((m : Int) / 2 ^ (8 * s) != 0) = false := by rw [hz]; rfl
        have hkk : okN m s = true := decide_eq_true (by rw [Int.toNat_natCast, ← pow8, hz]; omega)
        have HE : Hid (numL m s = leB s m ∧ numE m s = 0) := Lib.hid ⟨by rw [numL, hkk]; rfl, by rw [numE, hkk]; rfl⟩
        obtain ⟨cur, hcur, hmk⟩ := make_any (P := Tryd.prog) 22 5 _ 1 1 Tryd.underlying22 info_byte s s (by omega) (by omega) (by omega)
        obtain ⟨cl, hcl⟩ : ∃ cl : List Value, cur = cl.toArray := ⟨cur.toList, by simp⟩
        subst hcl
        have hcs : cl.length = s := by simpa using hcur
        have hm0 : FilledV m 0 s cl := ⟨cl, by omega, rfl⟩
        have own0 : (w.alloc (.cells cl.toArray 5)).ownsRow w.heap.size 5 1 (.slice (some ⟨w.heap.size, 0, none⟩) s s) s cl :=
          ⟨by omega, .inr ⟨w.heap.size, s, _, rfl, Nat.le_refl _, heap_alloc_new w _, Nat.le_refl _, by unfold maxLen; omega, by simp [hcs], by rw [List.take_of_length_le (by simp [hcs])]⟩⟩
        have H0 := Lib.hid (And.intro hm0 (And.intro own0 (below1 w (.cells cl.toArray 5))))
        clear hm0 own0 hz hkk hcur hcs
        go_enter Tryd.func50, Tryd.ntmps50
        go_wp2_with (go_at_call 63; refine (HS.out _).mono ?_; rintro e w' ⟨rfl, rfl⟩)
        generalize w.alloc (.cells cl.toArray 5) = w0 at *
        clear hmk hz'
        go_loopw [26] (fun i wr => ∃ (k : Nat) (xs : List Value), k ≤ s ∧ i = .int .i64 (k : Int) ∧ Hid (FilledV m k s xs ∧ wr.ownsRow w.heap.size 5 1 (.slice (some ⟨w.heap.size, 0, none⟩) s s) s xs ∧ Below w.heap.size w wr)) (fun i _ => s - (intOf i).toNat)
        case atStart => exact ⟨0, _, by omega, rfl, H0⟩
        case round =>
          clear H0
          obtain ⟨k, xs, hk, rfl, HK⟩ := hrel
          by_cases hlt : k < s
          · have c0 : ∃ y, wr.cell? ⟨w.heap.size, k, none⟩ = some y := by
              have := World.ownsRow.cellAt HK.2.1 k (by omega)
              rw [this]
              exact ⟨_, List.getElem?_eq_getElem (by have := HK.1.len; omega)⟩
            obtain ⟨y, hy⟩ := c0
            have hf := World.ownsRow.frozenAt HK.2.1 k
            have HN := Lib.hid (World.ownsRow.stored HK.2.1 k (.int .u8 ((m : Int) / 256 ^ k % 256)))
            have HP := Lib.hid (pow8 k)
            go_wp2_with fail
            rw [HP.out]
            go_roundw
            case rel => exact ⟨k + 1, _, by omega, by go_num, Lib.hid ⟨HK.1.next hlt, HN.out.1, HK.2.2.setCell (Nat.le_refl _) _⟩⟩
            case measure => simp [intOf]; omega
          · have hks : k = s := by omega
            subst hks
            have HX := Lib.hid HK.1.all
            go_wp2_with fail
            go_ret2
            refine ⟨.slice (some ⟨w.heap.size, 0, none⟩) k k, by rw [HE.out.2]; rfl, ?_, HK.2.2⟩
            rw [HE.out.1]
            have h := HK.2.1
            rw [HX.out] at h
            unfold OwnB
            rw [leB_len]
            exact h
      · have hz' : ((m : Int) / 2 ^ (8 * s) != 0) = true := by simpa using hz
        have hkk : okN m s = false := decide_eq_false (by rw [Int.toNat_natCast, ← pow8]; omega)
        have HE : NumTo m s w (.returned (.tuple #[.slice none 0 0, .int .i64 1])) w := ⟨_, by rw [numE, hkk]; rfl, by rw [numL, hkk]; exact OwnB.nil _ _, Below.refl _ _⟩
        clear hkk hz
        have HE := Lib.hid HE
        go_enter Tryd.func50, Tryd.ntmps50
        go_wp2_with (go_at_call 63; refine (HS.out _).mono ?_; rintro e w' ⟨rfl, rfl⟩)
        go_ret2
        exact HE.out
  · rw [decide_eq_false h1] at HS
    have hk : okN n size = false := decide_eq_false (by omega)
    have HE : NumTo n size w (.returned (.tuple #[.slice none 0 0, .int .i64 1])) w := ⟨_, by rw [numE, hk]; rfl, by rw [numL, hk]; exact OwnB.nil _ _, Below.refl _ _⟩
    clear hk
    have HE := Lib.hid HE
    go_enter Tryd.func50, Tryd.ntmps50
    go_wp2_with (go_at_call 63; refine (HS.out _).mono ?_; rintro e w' ⟨rfl, rfl⟩)
    go_ret2
    exact HE.out
end Go.Proofs.YtlpnhfceblbllaaDoor
