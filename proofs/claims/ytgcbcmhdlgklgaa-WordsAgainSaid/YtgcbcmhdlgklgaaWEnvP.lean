/- What the laws of layer 9 ask of the program, where no table is read. No statement is proved here. -/
import Derived.Test.YtgcbcmhdlgklgaaBase9P
import Derived.Test.YtgcbcmhdlgklgaaWAwake
import Derived.Test.YtgcbcmhdlgklgaaWLaw2
import Derived.Test.YtgcbcmhdlgklgaaWLaw4
namespace Go.Proofs.Ytgcbcmhdlgklgaa
open Go.RowKit Go.Lib
set_option maxRecDepth 100000

theorem scoreW_self (l : List (List Int)) : scoreW l l = l.length := by
  rw [scoreW, List.filter_eq_self.2 (fun a ha => decide_eq_true ha)]
theorem txtT_okB (s : ByteArray) (h : s.size ≤ 140737488351232) : (txtT s).ok := by
  simp [txtT, T.ok, T.okL, T.okD, okInt, okLen, okFar]
  omega
theorem allW_txt (s : ByteArray) : allW (T.val (txtT s)) = splitL (bsI s) := by
  simp [txtT, T.val, allW]
theorem scored (s : ByteArray) (w : World) (hs : s.size ≤ 140737488351232) :
    Calls Try.prog 8 #[txtArg s, .string s] w fun e w' => e = .returned (.int .i64 ((splitL (bsI s)).length : Nat)) ∧ Below w.heap.size w w' := by
  have hm : (allW (T.val (txtT s))).length ≤ 1000000000000 := by
    have := splitL_len (bsI s)
    rw [allW_txt]
    omega
  have h := score_any (txtT s) (txtT_okB s hs) s (by omega) w (txtT_in s w) hm
  rw [allW_txt, scoreW_self] at h
  exact h
theorem p9a_of (W : World) : P9a W := ⟨fun w _ => awake9_any w, fun s w hs _ => psplit_any s w hs, fun s w hs _ => scored s w hs⟩
theorem p9s_of (W : World) : P9s W := ⟨fun w _ => awake9_any w, fun x w _ ok hin hm => pterms_any x ok w hin hm, fun s w hs _ => psplit_any s w (by omega), fun x s w _ ok hin hs hm => score_any x ok s (by omega) w hin hm⟩
end Go.Proofs.Ytgcbcmhdlgklgaa
