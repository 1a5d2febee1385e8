/- The contracts of keyenc's appendText, widened, and of the document's own text and number: no statement is proved here. -/
import Derived.Test.YtdlgngnibbaamaaDoorAp
namespace Go.Proofs.YtdlgngnibbaamaaDoor
open Go.RowKit
set_option maxRecDepth 100000

/-- A text's bytes but for its end. -/
def esc (l : List Int) : List Int := l.flatMap fun b => if b = 0 then [0, 255] else [b]
theorem keyT_esc (l : List Int) : keyT l = esc l ++ [0, 0] := by
  induction l with
  | nil => rfl
  | cons b r ih =>
    rw [keyT, ih]
    split
    · rename_i h; simp [esc, h]
    · rename_i h; simp [esc, h]
theorem esc_snoc {l : List Int} {k : Nat} {b : Int} (h : l[k]? = some b) : esc (l.take (k + 1)) = esc (l.take k) ++ (if b = 0 then [0, 255] else [b]) := by
  rw [List.take_add_one, h, esc, List.flatMap_append]; simp [esc]
theorem flat_le {α : Type} (f : α → List Int) (l : List α) (k : Nat) : ((l.take k).flatMap f).length ≤ (l.flatMap f).length := by
  conv => rhs; rw [← List.take_append_drop k l, List.flatMap_append, List.length_append]
  omega
theorem esc_room {l : List Int} {k : Nat} {b : Int} (h : l[k]? = some b) : (esc (l.take k)).length + (if b = 0 then 2 else 1) + 2 ≤ (keyT l).length := by
  have h1 := flat_le (fun b : Int => if b = 0 then [0, 255] else [b]) l (k + 1)
  have h2 := congrArg List.length (esc_snoc h)
  rw [keyT_esc]
  unfold esc at *
  rw [List.length_append] at h2 ⊢
  have h3 : (if b = 0 then [0, 255] else [b] : List Int).length = if b = 0 then 2 else 1 := by split <;> rfl
  rw [h3] at h2
  simp only [List.length_cons, List.length_nil]
  omega
theorem keyT_ge (l : List Int) : l.length + 2 ≤ (keyT l).length := by
  induction l with
  | nil => simp [keyT]
  | cons b r ih => rw [keyT]; split <;> simp <;> omega
theorem esc_le (l : List Int) (k : Nat) : (esc (l.take k)).length ≤ 2 * k := by
  have h := keyT_le (l.take k)
  rw [keyT_esc, List.length_append] at h
  have h2 := List.length_take_le k l
  simp at h
  omega
/-- The byte at a place. -/
theorem byte_at (s : ByteArray) {k : Nat} (hk : k < s.size) : (bsI s)[k]? = some ((s[k]'hk).toNat : Int) := by
  rw [bsI, List.getElem?_map, Array.getElem?_toList, Array.getElem?_eq_getElem hk]; rfl
theorem byte_range (s : ByteArray) {k : Nat} (hk : k < s.size) : 0 ≤ ((s[k]'hk).toNat : Int) ∧ ((s[k]'hk).toNat : Int) ≤ 255 := by
  have := (s[k]'hk).toNat_lt
  omega

set_option maxHeartbeats 2000000 in
theorem appText_any (B : Nat) (v : Value) (l : List Int) (s : ByteArray) (w : World) (hB : B ≤ w.heap.size) (hv : OwnB w B v l) (hl : l.length + (keyT (bsI s)).length ≤ 140737488355328) :
    Calls Tryd.prog 107 #[v, .string s] w fun e w' => ∃ v', e = .returned v' ∧ Grew B w w' v v' (l ++ keyT (bsI s)) := by
  have HV := Lib.hid hv
  have hss := keyT_ge (bsI s)
  rw [bsI_len] at hss
  clear hv
  go_enter Tryd.func107, Tryd.ntmps107
  go_wp2_with fail
  go_loopw [0, 8] (fun u i wr => ∃ k : Nat, k ≤ s.size ∧ i = .int .i64 k ∧ Grew B w wr v u (l ++ esc ((bsI s).take k))) (fun _ i _ => s.size - (intOf i).toNat)
  case atStart => exact ⟨0, by omega, rfl, by simpa [esc] using Grew.refl HV.out⟩
  case round =>
    obtain ⟨k, hk, rfl, hg⟩ := hrel
    have HG := Lib.hid hg
    have hz := Nat.le_trans hB hg.size
    clear hg
    by_cases h1 : k < s.size
    · have HB := Lib.hid (byte_at s h1)
      by_cases hb : ((s[k]'h1).toNat : Int) = 0
      · have hbt : (((s[k]'h1).toNat : Int) == 0) = true := by simp [hb]
        have HS := Lib.hid ((esc_snoc (HB.out)).trans (by rw [if_pos hb]))
        have HB0 := Lib.hid hb
        have hle := esc_room HB.out
        rw [if_pos hb] at hle
        clear hb
        go_wp2_with (first
          | (at_builtin; refine apL _ rfl (.tmp 11) (.tmp 15) rfl B _ _ rfl HG.out.own [((s[k]'h1).toNat : Int)] _ 1 1 rfl rfl rfl rfl (by rw [List.length_append]; omega) hz ?_; intro v' w1 hg1; have hz1 := Nat.le_trans hz hg1.size; have G1 := Lib.hid hg1; clear hg1)
          | (at_builtin; refine apL _ rfl (.tmp 21) (.tmp 22) rfl B _ _ rfl G1.out.own [255] _ 1 1 rfl rfl rfl rfl (by rw [List.length_append, List.length_append, List.length_singleton]; omega) hz1 ?_; intro v2 w2 hg2; have G2 := Lib.hid hg2; clear hg2))
        go_roundw
        case rel =>
          refine ⟨k + 1, by omega, by go_num, ?_⟩
          have h := (HG.out.trans G1.out).trans G2.out
          rw [HB0.out, List.append_assoc, List.append_assoc] at h
          rw [HS.out]
          exact h
        case measure => simp [intOf]; omega
      · have hbt : (((s[k]'h1).toNat : Int) == 0) = false := by simp only [beq_eq_false_iff_ne]; exact hb
        have HS := Lib.hid ((esc_snoc (HB.out)).trans (by rw [if_neg hb]))
        have hle := esc_room HB.out
        rw [if_neg hb] at hle
        clear hb
        go_wp2_with (first
          | (at_builtin; refine apL _ rfl (.tmp 11) (.tmp 15) rfl B _ _ rfl HG.out.own [((s[k]'h1).toNat : Int)] _ 1 1 rfl rfl rfl rfl (by rw [List.length_append]; omega) hz ?_; intro v' w1 hg1; have G1 := Lib.hid hg1; clear hg1))
        go_roundw
        case rel =>
          refine ⟨k + 1, by omega, by go_num, ?_⟩
          have h := HG.out.trans G1.out
          rw [List.append_assoc] at h
          rw [HS.out]
          exact h
        case measure => simp [intOf]; omega
    · have hk8 : k = s.size := by omega
      subst hk8
      have hle : (esc ((bsI s).take s.size)).length + 2 = (keyT (bsI s)).length := by rw [keyT_esc, List.take_of_length_le (by rw [bsI_len]; omega), List.length_append]; rfl
      go_wp2_with (at_builtin; refine apL _ rfl (.tmp 25) (.tmp 26) rfl B _ _ rfl HG.out.own [0, 0] _ 2 2 rfl rfl rfl rfl (by rw [List.length_append]; omega) hz ?_; intro v' w1 hg1; have G1 := Lib.hid hg1; clear hg1)
      go_ret
      refine ⟨_, rfl, ?_⟩
      have h := HG.out.trans G1.out
      rw [List.take_of_length_le (by rw [bsI_len]; omega), List.append_assoc, ← keyT_esc] at h
      exact h

/-- A call yields bytes of its own. -/
def Makes (l : List Int) (w : World) (e : Ending) (w' : World) : Prop := ∃ v', e = .returned v' ∧ OwnB w' w.heap.size v' l ∧ Below w.heap.size w w'
theorem Grew.makes {w w' : World} {v' : Value} {l : List Int} (h : Grew w.heap.size w w' (.slice none 0 0) v' l) : Makes l w (.returned v') w' :=
  ⟨v', rfl, h.own, h.below (OwnB.nil _ _) (Below.refl _ _) (Nat.le_refl _) (Nat.le_refl _)⟩
set_option maxHeartbeats 2000000 in
theorem refText_any (s : ByteArray) (w : World) (hl : (keyT (bsI s)).length ≤ 140737488355328) :
    Calls Tryd.prog 83 #[.string s] w (Makes (keyT (bsI s)) w) := by
  have hss := keyT_ge (bsI s)
  rw [bsI_len] at hss
  go_enter Tryd.func83, Tryd.ntmps83
  go_wp2_with fail
  go_loopw [3, 4] (fun u i wr => ∃ k : Nat, k ≤ s.size ∧ i = .int .i64 k ∧ Grew w.heap.size w wr (.slice none 0 0) u (esc ((bsI s).take k))) (fun _ i _ => s.size - (intOf i).toNat)
  case atStart => exact ⟨0, by omega, rfl, by simpa [esc] using Grew.refl (OwnB.nil _ _)⟩
  case round =>
    obtain ⟨k, hk, rfl, hg⟩ := hrel
    have HG := Lib.hid hg
    have hz := hg.size
    clear hg
    by_cases h1 : k < s.size
    · have HB := Lib.hid (byte_at s h1)
      by_cases hb : ((s[k]'h1).toNat : Int) = 0
      · have hbt : (((s[k]'h1).toNat : Int) == 0) = true := by simp [hb]
        have HS := Lib.hid ((esc_snoc (HB.out)).trans (by rw [if_pos hb]))
        have HB0 := Lib.hid hb
        have hle := esc_room HB.out
        rw [if_pos hb] at hle
        clear hb
        go_wp2_with (first
          | (at_builtin; refine apL _ rfl (.tmp 11) (.tmp 15) rfl w.heap.size _ _ rfl HG.out.own [((s[k]'h1).toNat : Int)] _ 1 1 rfl rfl rfl rfl (by omega) hz ?_; intro v' w1 hg1; have hz1 := Nat.le_trans hz hg1.size; have G1 := Lib.hid hg1; clear hg1)
          | (at_builtin; refine apL _ rfl (.tmp 21) (.tmp 22) rfl w.heap.size _ _ rfl G1.out.own [255] _ 1 1 rfl rfl rfl rfl (by rw [List.length_append, List.length_singleton]; omega) hz1 ?_; intro v2 w2 hg2; have G2 := Lib.hid hg2; clear hg2))
        go_roundw
        case rel =>
          refine ⟨k + 1, by omega, by go_num, ?_⟩
          have h := (HG.out.trans G1.out).trans G2.out
          rw [HB0.out, List.append_assoc] at h
          rw [HS.out]
          exact h
        case measure => simp [intOf]; omega
      · have hbt : (((s[k]'h1).toNat : Int) == 0) = false := by simp only [beq_eq_false_iff_ne]; exact hb
        have HS := Lib.hid ((esc_snoc (HB.out)).trans (by rw [if_neg hb]))
        have hle := esc_room HB.out
        rw [if_neg hb] at hle
        clear hb
        go_wp2_with (first
          | (at_builtin; refine apL _ rfl (.tmp 11) (.tmp 15) rfl w.heap.size _ _ rfl HG.out.own [((s[k]'h1).toNat : Int)] _ 1 1 rfl rfl rfl rfl (by omega) hz ?_; intro v' w1 hg1; have G1 := Lib.hid hg1; clear hg1))
        go_roundw
        case rel =>
          refine ⟨k + 1, by omega, by go_num, ?_⟩
          have h := HG.out.trans G1.out
          rw [HS.out]
          exact h
        case measure => simp [intOf]; omega
    · have hk8 : k = s.size := by omega
      subst hk8
      have hle : (esc ((bsI s).take s.size)).length + 2 = (keyT (bsI s)).length := by rw [keyT_esc, List.take_of_length_le (by rw [bsI_len]; omega), List.length_append]; rfl
      go_wp2_with (at_builtin; refine apL _ rfl (.tmp 24) (.tmp 25) rfl w.heap.size _ _ rfl HG.out.own [0, 0] _ 2 2 rfl rfl rfl rfl (by omega) hz ?_; intro v' w1 hg1; have G1 := Lib.hid hg1; clear hg1)
      go_ret
      have h := HG.out.trans G1.out
      rw [List.take_of_length_le (by rw [bsI_len]; omega), ← keyT_esc] at h
      exact h.makes
end Go.Proofs.YtdlgngnibbaamaaDoor
