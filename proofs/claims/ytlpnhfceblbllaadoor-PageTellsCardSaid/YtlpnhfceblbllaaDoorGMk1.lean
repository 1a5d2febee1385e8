/- The program's put of a number into a part of a page. No statement is proved here. -/
import Derived.Test.YtlpnhfceblbllaaDoorGRow
import Derived.Test.YtlpnhfceblbllaaDoorGEnv
import Derived.Test.YtlpnhfceblbllaaDoorDBlk1
namespace Go.Proofs.YtlpnhfceblbllaaDoor
open Go.RowKit
set_option maxRecDepth 100000

theorem numE_ok {n : Int} {s : Nat} (h1 : 1 ≤ s) (h8 : s ≤ 8) (h0 : 0 ≤ n) (hn : n < 256 ^ s) : numE n s = 0 := by
  have hk : okN n s = true := decide_eq_true ⟨by omega, by omega, h0, by rw [Int.toNat_natCast]; exact Int.ediv_eq_zero_of_lt h0 hn⟩
  rw [numE, hk]
  rfl
set_option maxHeartbeats 4000000 in
theorem lput_any (g k : Nat) (n : Int) (size c : Nat) (L : List Int) (w : World) (B : Nat) (hf : FullAt w g L) (hn : okInt n) (h1 : 1 ≤ size) (h8 : size ≤ 8) (h0 : 0 ≤ n) (hn2 : n < 256 ^ size) (hk : k + size ≤ L.length) (hB : B ≤ g) :
    Calls Tryd.prog 28 #[.slice (some ⟨g, k, none⟩) size c, .int .i64 n] w fun e w' => e = .returned (.tuple #[]) ∧ FullAt w' g (spl L k (leB size n)) ∧ Below B w w' := by
  have HN := Lib.hid (pnumber_any n size hn (by unfold okInt; omega) w)
  have HE := Lib.hid (And.intro (numL_ok h1 h8 h0 hn2) (numE_ok h1 h8 h0 hn2))
  have HF := Lib.hid (And.intro hf hk)
  have hgl := hf.lt
  clear hf hk hn hn2
  go_enter Tryd.func28, Tryd.ntmps28
  go_wp2_with (first
    | (go_at_call 50; refine HN.out.mono ?_; rintro e w1 ⟨x, rfl, ho, hb⟩; rw [HE.out.1] at ho; rw [HE.out.2]; obtain ⟨ax, cx, rfl, hin, hnil, -, -⟩ := ho.shape; rw [leB_len]; have HX := Lib.hid (And.intro hin (And.intro hb hnil)); clear ho hin hb hnil)
    | (show wpList _ _ _ (⟨some 15, _, _, _, _, _⟩ :: _) _ _; refine cpF (o := ⟨some 15, _, _, _, _, _⟩) rfl (.tmp 13) (.tmp 14) rfl g k size c L (HF.out.1.then_ HX.out.2.1) rfl ax size cx (leB size n) rfl (leB_len _ _) (Nat.le_refl _) HX.out.1 HF.out.2 B w (HX.out.2.1.mono (Nat.le_trans hB (Nat.le_of_lt hgl))) hB ?_; intro w2 hg2 hb2; have HB2 := Lib.hid hb2; clear hb2))
  exact ⟨rfl, .tuple #[], results_void rfl _ _, rfl, hg2.out, HB2.out⟩
end Go.Proofs.YtlpnhfceblbllaaDoor
