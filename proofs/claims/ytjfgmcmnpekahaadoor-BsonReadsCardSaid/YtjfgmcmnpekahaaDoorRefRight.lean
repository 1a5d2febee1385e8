/- The contracts of the document's own Name and plain: no statement is proved here. -/
import Derived.Test.YtjfgmcmnpekahaaDoorRefSize
import Derived.Test.YtjfgmcmnpekahaaDoorRight2
namespace Go.Proofs.YtjfgmcmnpekahaaDoor
open Go.RowKit
set_option maxRecDepth 100000

theorem index_neg (l : List UInt8) : (Lib.indexByte l 0 < 0) ↔ ∀ c ∈ l, c ≠ 0 := by
  induction l with
  | nil => simp [Lib.indexByte]
  | cons x r ih =>
    have hge := Lib.indexByte_ge r 0
    rw [Lib.indexByte]
    by_cases hx : x = 0
    · subst hx; simp
    · have hb : (x == 0) = false := by simpa using hx
      rw [if_neg (by simp [hb])]
      constructor
      · intro h c hc
        rcases List.mem_cons.1 hc with rfl | hc
        · exact hx
        · refine ih.1 ?_ c hc
          split at h
          · rename_i h2; have := eq_of_beq h2; omega
          · omega
      · intro h
        have := ih.2 (fun c hc => h c (by simp [hc]))
        have h3 : Lib.indexByte r 0 = -1 := by omega
        rw [if_pos (by simp [h3])]
        omega
set_option maxHeartbeats 1000000 in
theorem refName_any (s : ByteArray) (w : World) (hs : s.size ≤ 140737488351232) (hT : Tabs w) : Calls Tryd.prog 56 #[.string s] w fun e w' => e = .returned (.bool (nameOk s)) ∧ Below w.heap.size w w' := by
  have HN := Lib.hid (show nameOk s = _ by unfold nameOk; rfl)
  have HV := Lib.hid (fun w h => valid_any s w (by omega) h)
  have HZ : (s.toList == []) = (s.size == 0) := by
    rw [Lib.toList_data, Bool.eq_iff_iff]
    rw [show s.size = s.data.toList.length by rfl]
    cases s.data.toList <;> simp
  rw [HZ] at HN
  clear HZ
  generalize hv : Lib.validD s.data.toList = valid at HN HV
  clear hv
  go_enter Tryd.func56, Tryd.ntmps56
  by_cases h1 : s.size < 1
  · have HF := Lib.hid (show nameOk s = false by rw [HN.out, show s.size = 0 by omega]; simp)
    clear HN
    go_wp2_with (go_at_call 65; refine (HV.out _ hT).mono ?_; rintro e w1 ⟨rfl, b1⟩)
    go_ret
    exact ⟨ret_bool (by rw [HF.out]), b1⟩
  by_cases h2 : 100 < s.size
  · have HF := Lib.hid (show nameOk s = false by rw [HN.out]; simp; omega)
    clear HN
    go_wp2_with (go_at_call 65; refine (HV.out _ hT).mono ?_; rintro e w1 ⟨rfl, b1⟩)
    go_ret
    exact ⟨ret_bool (by rw [HF.out]), b1⟩
  cases valid
  · have HF := Lib.hid (show nameOk s = false by rw [HN.out]; simp)
    clear HN
    go_wp2_with (go_at_call 65; refine (HV.out _ hT).mono ?_; rintro e w1 ⟨rfl, b1⟩)
    go_ret
    exact ⟨ret_bool (by rw [HF.out]), b1⟩
  · have HF := Lib.hid (show nameOk s = decide (Lib.indexByte s.data.toList 0 < 0) by
      rw [HN.out, show (s.size == 0) = false from beq_eq_false_iff_ne.2 (by omega), show decide (s.size ≤ 100) = true from decide_eq_true (by omega)]; simp)
    clear HN
    go_wp2_with (go_at_call 65; refine (HV.out _ hT).mono ?_; rintro e w1 ⟨rfl, b1⟩)
    go_loop [4] (fun i => ∃ k : Nat, k ≤ s.size ∧ i = .int .i64 k ∧ ∀ c ∈ s.data.toList.take k, c ≠ 0) (fun i => s.size - (intOf i).toNat)
    case atStart => exact ⟨0, by omega, rfl, by simp⟩
    case round =>
      obtain ⟨k, hk, rfl, hz⟩ := hrel
      have HZ := Lib.hid hz
      clear hz
      by_cases hlt : k < s.size
      · have HS := Lib.hid (show s.data.toList.take (k + 1) = s.data.toList.take k ++ [s[k]] by rw [List.take_succ_eq_append_getElem (by simpa using hlt)]; rfl)
        go_wp2_with fail
        · have hz := ‹((_ : Int) == 0) = true›
          go_ret
          refine ⟨ret_bool ?_, b1⟩
          rw [HF.out]
          have h0 : s[k] = 0 := by
            have := eq_of_beq hz
            exact UInt8.toNat_inj.1 (by simpa using this)
          have hm : s[k] ∈ s.data.toList := List.mem_of_mem_take (i := k + 1) (by rw [HS.out]; simp)
          exact (decide_eq_false (fun hc => (index_neg _).1 hc _ hm h0)).symm
        · have hz := ‹((_ : Int) == 0) = false›
          go_round
          case rel =>
            refine ⟨k + 1, by omega, by go_num, fun c hc => ?_⟩
            rw [HS.out] at hc
            rcases List.mem_append.1 hc with hc | hc
            · exact HZ.out c hc
            · simp at hc
              subst hc
              intro h0
              rw [h0] at hz
              simp at hz
          case measure => simp [intOf]; omega
      · go_wp2_with fail
        go_ret
        refine ⟨ret_bool ?_, b1⟩
        rw [HF.out]
        have := HZ.out
        rw [List.take_of_length_le (by simp; omega)] at this
        simpa using (index_neg _).2 this
end Go.Proofs.YtjfgmcmnpekahaaDoor
