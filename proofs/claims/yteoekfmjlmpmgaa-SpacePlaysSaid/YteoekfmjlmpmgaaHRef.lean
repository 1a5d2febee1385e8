/- The document's own space as it lies: a box with a row of numbers. No statement is proved here. -/
import Derived.Test.YteoekfmjlmpmgaaHTwo
namespace Go.Proofs.Yteoekfmjlmpmgaa
open Go.RowKit
set_option maxRecDepth 100000

/-- The document's space: its box at a, its row in another block. -/
def RSp (B : Nat) (w : World) (F : List Nat) (a : Nat) (L : List Int) : Prop :=
  ∃ g c, F = [a, g] ∧ a ≠ g ∧ B ≤ a ∧ w.heap[a]? = some (.cells #[.slice (some ⟨g, 0, none⟩) L.length c] 64) ∧ OwnI w B (.slice (some ⟨g, 0, none⟩) L.length c) L ∧ three L ∧ 1 ≤ L.length ∧ L.length ≤ 65536
theorem RSp.lt {B : Nat} {w : World} {F : List Nat} {a : Nat} {L : List Int} (h : RSp B w F a L) : ∀ b ∈ F, B ≤ b ∧ b < w.heap.size := by
  obtain ⟨g, c, rfl, hne, hB, hbox, hrow, -⟩ := h
  intro b hb
  rcases List.mem_cons.1 hb with rfl | hb
  · exact ⟨hB, lt_of_block hbox⟩
  · rw [List.mem_singleton.1 hb]
    exact hrow.block g rfl
theorem RSp.keep {B : Nat} {w w' : World} {F : List Nat} {a : Nat} {L : List Int} (h : RSp B w F a L) (hk : ∀ b ∈ F, w'.heap[b]? = w.heap[b]?) : RSp B w' F a L := by
  obtain ⟨g, c, rfl, hne, hB, hbox, hrow, h1, h2, h3⟩ := h
  refine ⟨g, c, rfl, hne, hB, (hk a (by simp)).trans hbox, hrow.keep fun b hb => hk b ?_, h1, h2, h3⟩
  have : g = b := by injection hb
  simp [this]
/-- A number of it is written. -/
theorem RSp.set {B : Nat} {w : World} {a g c : Nat} {L : List Int} (hne : a ≠ g) (hB : B ≤ a) (hbox : w.heap[a]? = some (.cells #[.slice (some ⟨g, 0, none⟩) L.length c] 64)) (hrow : OwnI w B (.slice (some ⟨g, 0, none⟩) L.length c) L) (h3 : three L) (hl : 1 ≤ L.length ∧ L.length ≤ 65536) (j : Nat) {x : Int} (hx : x = 0 ∨ x = 1 ∨ x = 2) :
    Only [a, g] w (w.setCell ⟨g, j, none⟩ (.int .i64 x)) ∧ RSp B (w.setCell ⟨g, j, none⟩ (.int .i64 x)) [a, g] a (L.set j x) := by
  obtain ⟨h1, h2⟩ := hrow.set j x
  have hbox2 : (w.setCell ⟨g, j, none⟩ (.int .i64 x)).heap[a]? = some (.cells #[.slice (some ⟨g, 0, none⟩) L.length c] 64) := by
    rw [h2.block a (lt_of_block hbox) (fun e => hne (Option.some.inj e))]
    exact hbox
  have hlen : (L.set j x).length = L.length := List.length_set
  refine ⟨(Only.of_grown h2).mono fun k hk => .inl (by rw [List.mem_singleton.1 hk]; simp), g, c, rfl, hne, hB, by rw [hlen]; exact hbox2, by rw [hlen]; exact h1, three_set h3 j hx, by rw [hlen]; exact hl⟩
theorem find_eq {L : List Int} {k : Nat} (h : L[k]? = some 0) (hj : ∀ j, j < k → L[j]? ≠ some 0) : findZ L = some k := by
  cases hf : findZ L with
  | none =>
    have h1 := zeros_set L k 1 h (by decide)
    have h2 := find_none hf
    omega
  | some i =>
    obtain ⟨h1, h2⟩ := find_some hf
    rcases Nat.lt_trichotomy i k with h3 | h3 | h3
    · exact absurd h1 (hj i h3)
    · rw [h3]
    · exact absurd h (h2 k h3)
theorem find_no {L : List Int} (hj : ∀ j, j < L.length → L[j]? ≠ some 0) : findZ L = none := by
  cases hf : findZ L with
  | none => rfl
  | some i => exact absurd (find_some hf).1 (hj i (lt_of_get (find_some hf).1))
set_option maxHeartbeats 4000000 in
theorem rtake_any (B : Nat) (F : List Nat) (a : Nat) (L : List Int) (w : World) (h : RSp B w F a L) :
    Calls Try.prog 28 #[.pointer (some ⟨a, 0, none⟩)] w (SpTo (RSp B) w F a (takeL L) (.tuple #[.int .i64 (takeN L), .int .i64 (takeE L)])) := by
  obtain ⟨g, c, rfl, hne, hB, hbox, hrow, h3, hl1, hl2⟩ := h
  have c0 := row_cells hbox 0
  have H := Lib.hid (And.intro hne (And.intro hB (And.intro hbox (And.intro hrow (And.intro h3 (And.intro hl1 hl2))))))
  clear hne hB hbox hrow h3
  generalize hn : L.length = n at *
  go_enter Try.func28, Try.ntmps28
  go_wp2_with fail
  go_loopw [4] (fun i wr => ∃ k : Nat, k ≤ n ∧ i = .int .i64 (k : Int) ∧ Hid (∀ j, j < k → L[j]? ≠ some 0) ∧ w = wr) (fun i _ => n - (intOf i).toNat)
  case atStart => exact ⟨0, Nat.zero_le _, rfl, Lib.hid (fun j hj => absurd hj (Nat.not_lt_zero _)), rfl⟩
  case round =>
    obtain ⟨k, hk, rfl, HJ, rfl⟩ := hrel
    by_cases hlt : k < n
    · obtain ⟨x, hx⟩ : ∃ x, L[k]? = some x := ⟨_, List.getElem?_eq_getElem (by omega)⟩
      obtain ⟨ck, fk⟩ := H.out.2.2.2.1.at_ hx
      by_cases h0 : x = 0
      · subst h0
        have hf := take_some (find_eq hx HJ.out)
        have hset := Lib.hid (RSp.set (L := L) H.out.1 H.out.2.1 (by rw [hn]; exact H.out.2.2.1) (by rw [hn]; exact H.out.2.2.2.1) H.out.2.2.2.2.1 (by omega) k (x := 1) (.inr (.inl rfl)))
        go_wp2_with fail
        go_ret2
        rw [hf.1, hf.2.1, hf.2.2]
        exact ⟨rfl, hset.out.1, _, hset.out.2, fun b hb => .inl hb⟩
      · have HX := Lib.hid hx
        clear hx
        go_wp2_with fail
        go_roundw
        case rel => exact ⟨k + 1, by omega, by go_num, Lib.hid (fun j hj => by
          rcases Nat.lt_or_ge j k with h5 | h5
          · exact HJ.out j h5
          · rw [show j = k by omega, HX.out]; intro e; injection e with e; exact h0 e), by trivial⟩
        case measure => simp [intOf]; omega
    · have hkn : k = n := by omega
      subst hkn
      have hf := take_none (find_no (L := L) (by rw [hn]; exact HJ.out))
      go_wp2_with fail
      go_ret2
      rw [hf.1, hf.2.1, hf.2.2]
      exact ⟨rfl, Only.refl _ _, _, ⟨g, c, rfl, H.out.1, H.out.2.1, by rw [hn]; exact H.out.2.2.1, by rw [hn]; exact H.out.2.2.2.1, H.out.2.2.2.2.1, by omega, by omega⟩, fun b hb => .inl hb⟩
set_option maxHeartbeats 4000000 in
theorem rset_any (B : Nat) (F : List Nat) (a : Nat) (L : List Int) (n tt : Int) (hn : okInt n) (hto : tt = 0 ∨ tt = 1 ∨ tt = 2) (w : World) (h : RSp B w F a L) :
    Calls Try.prog 36 #[.pointer (some ⟨a, 0, none⟩), .int .i64 n, .int .i64 tt] w (SpTo (RSp B) w F a (setL L n tt) (.int .i64 (setE L n))) := by
  have HS := Lib.hid h
  obtain ⟨g, c, rfl, hne, hB, hbox, hrow, h3, hl1, hl2⟩ := h
  have c0 := row_cells hbox 0
  have H := Lib.hid (And.intro hne (And.intro hB (And.intro hbox (And.intro hrow (And.intro h3 (And.intro hl1 hl2))))))
  clear hne hB hbox hrow h3
  have hbad : usedB L n = false → setE L n = 1 ∧ setL L n tt = L := fun e => by unfold setE setL; rw [e]; exact ⟨rfl, rfl⟩
  have hok : usedB L n = true → setE L n = 0 ∧ setL L n tt = L.set n.toNat tt := fun e => by unfold setE setL; rw [e]; exact ⟨rfl, rfl⟩
  unfold okInt at hn
  go_enter Try.func36, Try.ntmps36
  by_cases hin : 0 ≤ n ∧ n < L.length
  · obtain ⟨k, rfl⟩ : ∃ k : Nat, n = k := ⟨n.toNat, by omega⟩
    obtain ⟨x, hx⟩ : ∃ x, L[k]? = some x := ⟨_, List.getElem?_eq_getElem (by omega)⟩
    obtain ⟨ck, fk⟩ := H.out.2.2.2.1.at_ hx
    have hkl : k < L.length := by omega
    by_cases h1 : x = 1
    · subst h1
      have hf := hok (by simp [usedB, hx])
      have hset := Lib.hid (RSp.set (L := L) H.out.1 H.out.2.1 H.out.2.2.1 H.out.2.2.2.1 H.out.2.2.2.2.1 (by omega) k (x := tt) hto)
      rw [hf.1, hf.2, Int.toNat_natCast]
      clear hok hbad hf
      go_wp2_with fail
      go_ret
      exact ⟨rfl, hset.out.1, _, hset.out.2, fun b hb => .inl hb⟩
    · have hf := hbad (by simp [usedB, hx, h1])
      have hx1 : (x != 1) = true := by simp [h1]
      rw [hf.1, hf.2]
      clear hok hbad hf
      go_wp2_with fail
      all_goals
        go_ret
        exact ⟨rfl, Only.refl _ _, _, HS.out, fun b hb => .inl hb⟩
  · have hf := hbad (by
      unfold usedB
      by_cases h0 : 0 ≤ n
      · rw [List.getElem?_eq_none (by omega)]; simp
      · simp [h0])
    rw [hf.1, hf.2]
    clear hok hbad hf
    by_cases h0 : n < 0
    · go_wp2_with fail
      go_ret
      exact ⟨rfl, Only.refl _ _, _, HS.out, fun b hb => .inl hb⟩
    · have h1 : (L.length : Int) ≤ n := by omega
      go_wp2_with fail
      go_ret
      exact ⟨rfl, Only.refl _ _, _, HS.out, fun b hb => .inl hb⟩
end Go.Proofs.Yteoekfmjlmpmgaa
