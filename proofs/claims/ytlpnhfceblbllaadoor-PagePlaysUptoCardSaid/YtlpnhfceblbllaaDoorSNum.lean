/- Numbers in bytes, the document's own Number and Read: contracts. No statement is proved here. -/
import Derived.Test.YtlpnhfceblbllaaDoorY
namespace Go.Proofs.YtlpnhfceblbllaaDoor
open Go.RowKit
set_option maxRecDepth 100000

/-- The number that bytes are, the lowest first. -/
def valB : List Int → Int
  | [] => 0
  | b :: r => b + 256 * valB r
theorem valB_append (a b : List Int) : valB (a ++ b) = valB a + 256 ^ a.length * valB b := by
  induction a with
  | nil => simp [valB]
  | cons x a ih =>
    rw [List.cons_append, valB, valB, ih, List.length_cons, Int.pow_succ, Int.mul_add, Int.add_assoc, Int.mul_comm (256 ^ a.length) 256, Int.mul_assoc]
theorem valB_le {l : List Int} (h : isB l) : 0 ≤ valB l ∧ valB l < 256 ^ l.length := by
  induction l with
  | nil => simp [valB]
  | cons b r ih =>
    have h1 := h b (by simp)
    have h2 := ih fun x hx => h x (by simp [hx])
    rw [valB, List.length_cons, Int.pow_succ]
    omega
theorem valB_leB (k : Nat) (n : Int) (h0 : 0 ≤ n) : valB (leB k n) = n % 256 ^ k := by
  induction k generalizing n with
  | zero => simp [leB, valB]
  | succ k ih =>
    rw [leB, valB, ih (n / 256) (by omega), Int.pow_succ, Int.mul_comm (256 ^ k) 256]
    have hp : (0 : Int) < 256 ^ k := Int.pow_pos (by omega)
    rw [Int.emod_def n (256 * 256 ^ k), Int.emod_def (n / 256) (256 ^ k), ← Int.ediv_ediv_of_nonneg (by omega), Int.mul_assoc]
    generalize 256 ^ k * (n / 256 / 256 ^ k) = q
    omega
theorem leB_valB (l : List Int) (h : isB l) : leB l.length (valB l) = l := by
  induction l with
  | nil => rfl
  | cons b r ih =>
    have h1 := h b (by simp)
    rw [List.length_cons, leB, valB]
    have e1 : (b + 256 * valB r) % 256 = b := by omega
    have e2 : (b + 256 * valB r) / 256 = valB r := by omega
    rw [e1, e2, ih fun x hx => h x (by simp [hx])]

def okN (n size : Int) : Bool := decide (1 ≤ size ∧ size ≤ 8 ∧ 0 ≤ n ∧ n / 256 ^ size.toNat = 0)
def numL (n size : Int) : List Int := if okN n size then leB size.toNat n else []
def numE (n size : Int) : Int := if okN n size then 0 else 1
/-- What Number tells. -/
def NumTo (n size : Int) (w : World) (e : Ending) (w' : World) : Prop := ∃ v, e = .returned (.tuple #[v, .int .i64 (numE n size)]) ∧ OwnB w' w.heap.size v (numL n size) ∧ Below w.heap.size w w'
set_option maxHeartbeats 2000000 in
theorem refNumber_any (n size : Int) (hn : okInt n) (w : World) : Calls Tryd.prog 52 #[.int .i64 n, .int .i64 size] w (NumTo n size w) := by
  obtain ⟨i0, hi0, hz0, hz1, hz2⟩ := info_parts info_byte
  have I0 := Lib.hid (And.intro hi0 (And.intro hz0 (And.intro hz1 hz2)))
  clear hi0 hz0 hz1 hz2
  unfold okInt at hn
  by_cases h1 : size < 1
  · have hk : okN n size = false := decide_eq_false (by omega)
    have HE : NumTo n size w (.returned (.tuple #[.slice none 0 0, .int .i64 1])) w := ⟨_, by rw [numE, hk]; rfl, by rw [numL, hk]; exact OwnB.nil _ _, Below.refl _ _⟩
    clear hk
    have HE := Lib.hid HE
    go_enter Tryd.func52, Tryd.ntmps52
    go_wp2
    go_ret2
    exact HE.out
  by_cases h2 : size > 8
  · have hk : okN n size = false := decide_eq_false (by omega)
    have HE : NumTo n size w (.returned (.tuple #[.slice none 0 0, .int .i64 1])) w := ⟨_, by rw [numE, hk]; rfl, by rw [numL, hk]; exact OwnB.nil _ _, Below.refl _ _⟩
    clear hk
    have HE := Lib.hid HE
    go_enter Tryd.func52, Tryd.ntmps52
    go_wp2
    go_ret2
    exact HE.out
  by_cases h3 : n < 0
  · have hk : okN n size = false := decide_eq_false (by omega)
    have HE : NumTo n size w (.returned (.tuple #[.slice none 0 0, .int .i64 1])) w := ⟨_, by rw [numE, hk]; rfl, by rw [numL, hk]; exact OwnB.nil _ _, Below.refl _ _⟩
    clear hk
    have HE := Lib.hid HE
    go_enter Tryd.func52, Tryd.ntmps52
    go_wp2
    go_ret2
    exact HE.out
  obtain ⟨s, rfl⟩ := Int.eq_ofNat_of_zero_le (show 0 ≤ size by omega)
  have hs8 : s ≤ 8 := by omega
  have hn0 : 0 ≤ n := by omega
  go_enter Tryd.func52, Tryd.ntmps52
  go_wp2
  go_loopw [0, 6, 7] (fun u v i wr => ∃ (k : Nat) (x : Int), k ≤ s ∧ i = .int .i64 k ∧ u = .int .i64 x ∧ 0 ≤ x ∧ x ≤ n ∧ Hid (x = n / 256 ^ k ∧ OwnB wr w.heap.size v (leB k n)) ∧ Below w.heap.size w wr) (fun _ _ i _ => s - (intOf i).toNat)
  case atStart => exact ⟨0, n, by omega, rfl, rfl, by omega, by omega, ⟨by simp, OwnB.nil _ _⟩, Below.refl _ _⟩
  case round =>
    obtain ⟨k, x, hk, rfl, rfl, hx0, hx1, HK, hbel⟩ := hrel
    have hz := hbel.size
    by_cases hlt : k < s
    · go_wp2_with (at_builtin; refine apL _ rfl (.tmp 23) (.tmp 27) rfl w.heap.size _ _ rfl HK.2 [x % 256] _ 1 1 rfl rfl rfl rfl (by rw [leB_len]; omega) hz ?_; intro v' w1 hg; have G1 := Lib.hid hg; clear hg)
      go_roundw
      case rel =>
        refine ⟨k + 1, x / 256, by omega, by go_num, by go_num, by omega, by omega, ⟨?_, ?_⟩, G1.out.below HK.2 hbel (Nat.le_refl _) hz⟩
        · rw [HK.1, Int.ediv_ediv_of_nonneg (Int.pow_nonneg (by omega)), Int.pow_succ]
        · rw [leB_snoc, ← HK.1]; exact G1.out.own
      case measure => simp [intOf]; omega
    · have hks : k = s := by omega
      rw [hks] at HK
      by_cases hp : 0 < x
      · have hkk : okN n s = false := decide_eq_false (by rw [Int.toNat_natCast, ← HK.1]; omega)
        have HE : NumTo n s w (.returned (.tuple #[.slice none 0 0, .int .i64 1])) wr := ⟨_, by rw [numE, hkk]; rfl, by rw [numL, hkk]; exact OwnB.nil _ _, hbel⟩
        clear hkk HK
        have HE := Lib.hid HE
        go_wp2
        go_ret2
        exact HE.out
      · have hkk : okN n s = true := decide_eq_true (by rw [Int.toNat_natCast, ← HK.1]; omega)
        have HE : NumTo n s w (.returned (.tuple #[u6, .int .i64 0])) wr := ⟨_, by rw [numE, hkk]; rfl, by rw [numL, hkk]; exact HK.2, hbel⟩
        clear hkk HK
        have HE := Lib.hid HE
        go_wp2
        go_ret2
        exact HE.out
end Go.Proofs.YtlpnhfceblbllaaDoor
