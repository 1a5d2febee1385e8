/- The law SpaceRising over the contracts. No statement is proved here. -/
import Derived.Test.YteoekfmjlmpmgaaHAwake
namespace Go.Proofs.Yteoekfmjlmpmgaa
open Go.RowKit
set_option maxRecDepth 100000

/-- So many were taken, the last one is this. -/
structure Rise (M : List Int) (k : Nat) (last : Int) (L : List Int) : Prop where
  zeros : zerosN L + k = zerosN M
  len : L.length = M.length
  low : -1 ≤ last ∧ last < M.length
  none_ : ∀ j : Nat, (j : Int) ≤ last → L[j]? ≠ some 0
theorem Rise.start (M : List Int) : Rise M 0 (-1) M := ⟨rfl, rfl, ⟨by omega, by omega⟩, fun j h => by omega⟩
theorem Rise.step {M : List Int} {k : Nat} {last : Int} {L : List Int} (h : Rise M k last L) (hk : k < zerosN M) : takeE L = 0 ∧ last < takeN L ∧ takeN L < M.length ∧ 0 ≤ takeN L ∧ Rise M (k + 1) (takeN L) (takeL L) := by
  have hz := h.zeros
  obtain ⟨i, hi⟩ := find_is (L := L) (by omega)
  obtain ⟨h1, h2⟩ := find_some hi
  obtain ⟨e1, e2, e3⟩ := take_some hi
  have hl := lt_of_get h1
  have hlen := h.len
  have hlast : last < (i : Int) := by
    rcases Int.lt_or_le last i with h3 | h3
    · exact h3
    · exact absurd h1 (h.none_ i h3)
  rw [e1, e2, e3]
  refine ⟨rfl, hlast, by omega, by omega, ?_, by rw [List.length_set]; exact hlen, ⟨by omega, by omega⟩, fun j hj => ?_⟩
  · have := zeros_set L i 1 h1 (by decide)
    omega
  · rw [List.getElem?_set]
    split
    · rename_i he
      subst he
      simp [hl]
    · exact h2 j (by omega)
theorem Rise.done {M : List Int} {last : Int} {L : List Int} (h : Rise M (zerosN M) last L) : takeE L = 4 ∧ takeN L = 0 := by
  have := take_none (L := L) (zeros_none (by have := h.zeros; omega))
  exact ⟨this.2.1, this.1⟩
set_option maxHeartbeats 8000000 in
theorem rising_law {W : World} {Sp : World → List Nat → Nat → List Int → Prop} (P : P13 W Sp) (pages : Int) (hp : okInt pages) (a : Option Addr) (n c : Nat) (us : List Int) (hi : InI W a us) (hn : us.length = n) (hc : n ≤ c ∧ c ≤ 17592186044416) (h0 : a = none → c = 0) (hu : ∀ u ∈ us, okInt u) :
    Calls Try.prog 6 #[.int .i64 pages, .slice a n c] W fun e w' => e = .returned (.bool true) ∧ Below W.heap.size W w' := by
  have HP := Lib.hid P
  have HI := Lib.hid (And.intro hi (And.intro hn (And.intro (fun e => ⟨h0 e, List.eq_nil_of_length_eq_zero (by have := h0 e; omega)⟩ : a = none → c = 0 ∧ us = []) hu)))
  obtain ⟨hc1, hc2⟩ := hc
  clear P hi hn h0 hu
  go_enter Try.func6, Try.ntmps6
  go_wp2_with fail
  refine (awake13_any HP.out W (Below.refl _ _)).mono ?_
  rintro e w1 ⟨rfl, b1⟩
  have B1 := Lib.hid b1
  clear b1
  go_wp2_with fail
  refine (new_at HP.out B1.out B1.out pages a n c us hp (HI.out.1.then_ B1.out) HI.out.2.1 hc1 (Nat.le_trans hc2 (by decide)) (by omega) HI.out.2.2.1 HI.out.2.2.2).mono ?_
  rintro e w2 (⟨-, rfl, b2, -⟩ | ⟨M, sa, h1, rfl, S2⟩)
  · have B2 := Lib.hid b2
    clear b2
    go_wp2_with fail
    go_ret
    exact ⟨rfl, B2.out⟩
  have hM := newP_is h1
  have HN := Lib.hid (And.intro HI.out.2.1 hM)
  have hz : zerosN M ≤ 65536 := by omega
  have hlen : (M.length : Int) = pages := hM.2.2.1
  clear h1
  have S2 := Lib.hid S2
  go_wp2_with fail
  refine (S2.out.free HP.out (Nat.le_refl _)).mono ?_
  rintro e w3 ⟨rfl, S3⟩
  have S3 := Lib.hid S3
  clear S2
  go_wp2_with fail
  go_loopw [9, 10, 11, 12] (fun last i _ _ wr => ∃ (k : Nat) (x : Int) (L : List Int), k ≤ zerosN M ∧ k ≤ 300 ∧ i = .int .i64 (k : Int) ∧ last = .int .i64 x ∧ Hid (Rise M k x L ∧ SpAt Sp W W wr sa L)) (fun _ i _ _ _ => 300 - (intOf i).toNat)
  case atStart => exact ⟨0, -1, M, Nat.zero_le _, by omega, rfl, rfl, Lib.hid ⟨Rise.start M, S3.out⟩⟩
  case round =>
    obtain ⟨k, x, L, hk1, hk2, rfl, rfl, HK⟩ := hrel
    by_cases hlt : k < zerosN M ∧ k < 300
    · obtain ⟨q1, q2⟩ := hlt
      obtain ⟨e1, e2, e3, e4, hnext⟩ := HK.out.1.step q1
      have hx := HK.out.1.low
      have HX := Lib.hid hnext
      have HT := Lib.hid (HK.out.2.take HP.out (Nat.le_refl _))
      clear hnext
      rw [e1] at HT
      generalize takeN L = y at *
      go_wp2_with fail
      refine HT.out.mono ?_
      rintro e w4 ⟨rfl, S4⟩
      have S4 := Lib.hid S4
      go_wp2_with fail
      go_roundw
      case rel => exact ⟨k + 1, y, _, by omega, by omega, by go_num, rfl, Lib.hid ⟨HX.out, S4.out⟩⟩
      case measure => simp [intOf]; omega
    · by_cases hm : zerosN M ≤ 300
      · have hk : k = zerosN M := by omega
        subst hk
        obtain ⟨d1, d2⟩ := HK.out.1.done
        have HT := Lib.hid (HK.out.2.take HP.out (Nat.le_refl _))
        rw [d1, d2] at HT
        go_wp2_with fail
        refine HT.out.mono ?_
        rintro e w4 ⟨rfl, S4⟩
        have S4 := Lib.hid S4
        have hsum : ((zerosN M : Nat) : Int) + (n : Int) = pages := by have h1 := HN.out.1; have h2 := HN.out.2.2.2.2; omega
        go_wp2_with fail
        go_ret
        exact ⟨rfl, S4.out.low⟩
      · go_wp2_with fail
        go_ret
        exact ⟨rfl, HK.out.2.low⟩
end Go.Proofs.Yteoekfmjlmpmgaa
