/- The program's space: is, release, all, Free. No statement is proved here. -/
import Derived.Test.YteoekfmjlmpmgaaHPr5
import Derived.Test.YteoekfmjlmpmgaaHRef2
namespace Go.Proofs.Yteoekfmjlmpmgaa
open Go.RowKit
set_option maxRecDepth 100000

set_option maxHeartbeats 4000000 in
theorem is_any (B a g c : Nat) (vf vw : Value) (L H Wt : List Int) (n x : Int) (hn : okInt n) (w : World) (h : PspM w B a g c vf vw L H Wt) (hl : L.length ≤ 65536) :
    Calls Try.prog 22 #[.pointer (some ⟨a, 0, none⟩), .int .i64 n, .int .u8 x] w fun e w' => e = .returned (.bool (stB L n x)) ∧ w = w' := by
  have c0 : w.cell? ⟨a, 0, none⟩ = some (.slice (some ⟨g, 0, none⟩) L.length c) := row_cells h.hp.box 0
  unfold okInt at hn
  by_cases hin : 0 ≤ n ∧ n < L.length
  · obtain ⟨k, rfl⟩ : ∃ k : Nat, n = k := ⟨n.toNat, by omega⟩
    obtain ⟨y, hy⟩ : ∃ y, L[k]? = some y := ⟨_, List.getElem?_eq_getElem (by omega)⟩
    obtain ⟨ck, fk⟩ := h.st.at_ hy
    have hkl : k < L.length := by omega
    have hs : stB L k x = (y == x) := by simp [stB, hy]
    rw [hs]
    clear h hin hs hy
    generalize L.length = m at *
    by_cases hyx : y = x
    · subst hyx
      go_enter Try.func22, Try.ntmps22
      go_wp2_with fail
      go_ret
      exact ⟨by simp, rfl⟩
    · have hb : (y == x) = false := by simp [hyx]
      go_enter Try.func22, Try.ntmps22
      go_wp2_with fail
      go_ret
      exact ⟨by simp [hyx], rfl⟩
  · have hs : stB L n x = false := by
      unfold stB
      by_cases h0 : 0 ≤ n
      · rw [List.getElem?_eq_none (by omega)]; simp
      · simp [h0]
    rw [hs]
    clear h hs
    generalize L.length = m at *
    by_cases h0 : n < 0
    · go_enter Try.func22, Try.ntmps22
      go_wp2_with fail
      go_ret
      exact ⟨rfl, rfl⟩
    · have h1 : (m : Int) ≤ n := by omega
      go_enter Try.func22, Try.ntmps22
      go_wp2_with fail
      go_ret
      exact ⟨rfl, rfl⟩
set_option maxHeartbeats 4000000 in
theorem release_any (B a g c : Nat) (vf vw : Value) (L H Wt : List Int) (k : Nat) (w : World) (h : PspM w B a g c vf vw L H Wt) (hk : k < L.length) (hl : L.length ≤ 65536) (hp : heapP H) (hm : H.length ≤ 65536) :
    Calls Try.prog 34 #[.pointer (some ⟨a, 0, none⟩), .int .i64 k] w fun e w' => e = .returned (.tuple #[]) ∧ ∃ vf' H', heapP H' ∧ H'.Perm ((k : Int) :: H) ∧ PspM w' B a g c vf' vw (L.set k 0) H' Wt ∧ St w w' (blF a g vf vw) (blF a g vf' vw) := by
  have c0 : w.cell? ⟨a, 0, none⟩ = some (.slice (some ⟨g, 0, none⟩) L.length c) := row_cells h.hp.box 0
  obtain ⟨y, hy⟩ : ∃ y, L[k]? = some y := ⟨_, List.getElem?_eq_getElem (by omega)⟩
  obtain ⟨ck, fk⟩ := h.st.at_ hy
  have HS := Lib.hid (h.setZ k 0)
  have HP := Lib.hid (And.intro hp hm)
  have hls : (L.set k 0).length = L.length := List.length_set
  have HL := Lib.hid hls
  clear h hy hp hm hls
  generalize hm : L.length = m at *
  go_enter Try.func34, Try.ntmps34
  go_wp2_with fail
  refine (push_any B a _ vf vw H k _ HS.out.1.hp HP.out.1 (by have := HP.out.2; omega) (by unfold okInt; omega)).mono ?_
  rintro e w2 ⟨rfl, vf', H', ⟨q1, q2⟩, q3, q4, q5⟩
  have HQ := Lib.hid (And.intro q1 (And.intro q2 (HS.out.1.heap q3 q4 q5)))
  clear q1 q2 q3 q4 q5
  go_wp2_with fail
  exact ⟨rfl, .tuple #[], results_void rfl _ _, rfl, vf', H', HQ.out.1, HQ.out.2.1, HQ.out.2.2.1, HS.out.2.trans HQ.out.2.2.2⟩
set_option maxHeartbeats 4000000 in
theorem all_any (B a g c : Nat) (vf vw : Value) (L H Wt : List Int) (x : Int) (w : World) (h : PspM w B a g c vf vw L H Wt) (hl : L.length ≤ 65536) :
    Calls Try.prog 23 #[.pointer (some ⟨a, 0, none⟩), .int .u8 x] w fun e w' => ∃ v, e = .returned v ∧ OwnI w' w.heap.size v (areL L x) ∧ Below w.heap.size w w' := by
  have c0 : w.cell? ⟨a, 0, none⟩ = some (.slice (some ⟨g, 0, none⟩) L.length c) := row_cells h.hp.box 0
  have HS := Lib.hid h.st
  clear h
  generalize hn : L.length = n at *
  go_enter Try.func23, Try.ntmps23
  go_wp2_with fail
  go_loopw [5, 13] (fun v i wr => ∃ k : Nat, k ≤ n ∧ i = .int .i64 (k : Int) ∧ Hid (OwnI wr w.heap.size v (areL (L.take k) x) ∧ Below w.heap.size w wr)) (fun _ i _ => n - (intOf i).toNat)
  case atStart => exact ⟨0, Nat.zero_le _, rfl, Lib.hid ⟨OwnI.nil _ _, Below.refl _ _⟩⟩
  case round =>
    obtain ⟨k, hk, rfl, HR⟩ := hrel
    by_cases hlt : k < n
    · obtain ⟨y, hy⟩ : ∃ y, L[k]? = some y := ⟨_, List.getElem?_eq_getElem (by omega)⟩
      obtain ⟨ck, fk⟩ := (HS.out.then_ HR.out.2).at_ hy
      have hm := are_next hy x
      have hlen : (areL (L.take k) x).length ≤ k := by
        have h6 := many_le x (L.take k)
        rw [List.length_take] at h6
        rw [areL_len]; omega
      by_cases h2 : y = x
      · rw [if_pos h2] at hm
        clear hy
        go_wp2_with (first
          | (at_builtin; refine apIL _ rfl (.tmp 21) (.tmp 23) rfl w.heap.size _ _ rfl HR.out.1 [(k : Int)] _ 1 1 rfl rfl rfl rfl (by omega) HR.out.2.size ?_; intro v' w8 hg; have G8 := Lib.hid (And.intro hg.own (hg.below HR.out.1 HR.out.2 (Nat.le_refl _) HR.out.2.size)); clear hg))
        go_roundw
        case rel => exact ⟨k + 1, by omega, by go_num, by rw [hm]; exact G8⟩
        case measure => simp [intOf]; omega
      · rw [if_neg h2, List.append_nil] at hm
        clear hy
        go_wp2_with fail
        go_roundw
        case rel => exact ⟨k + 1, by omega, by go_num, by rw [hm]; exact HR⟩
        case measure => simp [intOf]; omega
    · have hkn : k = n := by omega
      subst hkn
      have ht : L.take k = L := List.take_of_length_le (by omega)
      rw [ht] at HR
      go_wp2_with fail
      go_ret
      exact ⟨_, rfl, HR.out⟩
theorem free_any (B : Nat) (F : List Nat) (a : Nat) (L : List Int) (w : World) (h : PSp B w F a L) :
    Calls Try.prog 17 #[.pointer (some ⟨a, 0, none⟩)] w (SpTo (PSp B) w F a L (.int .i64 (zerosN L))) := by
  have HS := Lib.hid h
  obtain ⟨g, c, vf, vw, H, Wt, rfl, h1, h2, h3, -⟩ := h
  obtain ⟨af, cf, e, -⟩ := h1.hp.own.shape
  subst e
  have hl : H.length = zerosN L := by rw [h3.length_eq, areL_len, zeros_many]
  rw [hl] at h1
  have c1 : w.cell? ⟨a, 1, none⟩ = some (.slice af (zerosN L) cf) := row_cells h1.hp.box 1
  clear h1 h2 h3
  rw [hl] at HS ⊢
  clear hl
  go_enter Try.func17, Try.ntmps17
  go_wp2_with fail
  go_ret
  exact ⟨rfl, Only.refl _ _, _, HS.out, fun b hb => .inl hb⟩
end Go.Proofs.Yteoekfmjlmpmgaa
