/- The program's space: Turn, Clone. No statement is proved here. -/
import Derived.Test.YteoekfmjlmpmgaaHPr8
namespace Go.Proofs.Yteoekfmjlmpmgaa
open Go.RowKit
set_option maxRecDepth 100000

theorem turn_set2 : ∀ (L : List Int) (j : Nat), L[j]? = some 2 → turnL (L.set j 0) = turnL L
  | [], _, h => by simp at h
  | x :: l, 0, h => by
    simp at h
    subst h
    simp [turnL]
  | x :: l, j + 1, h => by
    have := turn_set2 l j (by simpa using h)
    simp [turnL] at this ⊢
    exact this
theorem turn_none2 : ∀ (L : List Int) (k : Nat), areFrom 2 k L = [] → turnL L = L
  | [], _, _ => rfl
  | x :: l, k, h => by
    rw [areFrom] at h
    split at h
    · cases h
    · rename_i hx
      have := turn_none2 l (k + 1) h
      simp only [turnL] at this ⊢
      rw [List.map_cons, this, if_neg hx]
/-- While a turn is under way: the first k that waited are free. -/
structure TurnRel (w wr : World) (B a g c : Nat) (vf vw : Value) (L Wt : List Int) (k : Nat) (vf' : Value) (M H : List Int) : Prop where
  mem : PspM wr B a g c vf' vw M H Wt
  hp : heapP H
  free : H.Perm (areL M 0)
  wait : (Wt.drop k).Perm (areL M 2)
  three : three M
  len : M.length = L.length
  same : turnL M = turnL L
  st : St w wr (blF a g vf vw) (blF a g vf' vw)
set_option maxHeartbeats 4000000 in
theorem turn_any (B : Nat) (F : List Nat) (a : Nat) (L : List Int) (w : World) (h : PSp B w F a L) :
    Calls Try.prog 21 #[.pointer (some ⟨a, 0, none⟩)] w (SpTo (PSp B) w F a (turnL L) (.int .i64 (manyOf 2 L))) := by
  obtain ⟨g, c, vf, vw, H, Wt, rfl, h1, h2, h3, h4, h5, h6, h7⟩ := h
  have hwl : Wt.length = manyOf 2 L := by rw [h4.length_eq, areL_len]
  have hml : manyOf 2 L ≤ 65536 := Nat.le_trans (many_le 2 L) h7
  obtain ⟨aw, cw, e, -⟩ := h1.wt.shape
  rw [hwl] at e
  subst e
  have c2 : w.cell? ⟨a, 2, none⟩ = some (.slice aw (manyOf 2 L) cw) := row_cells h1.hp.box 2
  have R0 := Lib.hid (show TurnRel w w B a g c vf (.slice aw (manyOf 2 L) cw) L Wt 0 vf L H from ⟨h1, h2, h3, h4, h5, rfl, rfl, St.refl _ _⟩)
  have HL := Lib.hid (And.intro h6 (And.intro h7 hwl))
  clear h1 h2 h3 h4 h5 h6 h7 hwl
  generalize hwn : manyOf 2 L = wn at *
  go_enter Try.func21, Try.ntmps21
  go_wp2_with fail
  go_loopw [16] (fun i wr => ∃ (k : Nat) (vf' : Value) (M H' : List Int), k ≤ wn ∧ i = .int .i64 (k : Int) ∧ Hid (TurnRel w wr B a g c vf (.slice aw wn cw) L Wt k vf' M H')) (fun i _ => wn - (intOf i).toNat)
  case atStart => exact ⟨0, _, _, _, Nat.zero_le _, rfl, R0⟩
  case round =>
    obtain ⟨k, vf', M, H', hk, rfl, HR⟩ := hrel
    by_cases hlt : k < wn
    · obtain ⟨y, hy⟩ : ∃ y, Wt[k]? = some y := ⟨_, List.getElem?_eq_getElem (by have := HL.out.2.2; omega)⟩
      have hd : Wt.drop k = y :: Wt.drop (k + 1) := by
        rw [List.drop_eq_getElem_cons (lt_of_get hy)]
        obtain ⟨_, e⟩ := List.getElem?_eq_some_iff.1 hy
        rw [e]
      have hw := HR.out.wait
      rw [hd] at hw
      obtain ⟨q1, q2, q3⟩ := are_at (hw.mem_iff.1 (List.mem_cons_self ..))
      obtain ⟨j, rfl⟩ : ∃ j : Nat, y = (j : Int) := ⟨y.toNat, by omega⟩
      rw [Int.toNat_natCast] at q3
      obtain ⟨gw, e⟩ : ∃ gw, aw = some ⟨gw, 0, none⟩ := by
        obtain ⟨gw, d, e, -⟩ := HR.out.mem.wt.form (by have := lt_of_get hy; omega)
        injection e with e
        exact ⟨gw, e⟩
      subst e
      obtain ⟨ck, fk⟩ := HR.out.mem.wt.at_ hy
      have HC := Lib.hid (release_any B a g c vf' _ M H' Wt j wr HR.out.mem (lt_of_get q3) (by have := HR.out.len; have := HL.out.2.1; omega) HR.out.hp (by have := perm_len HR.out.free; have := HR.out.len; have := HL.out.2.1; omega))
      have HQ := Lib.hid (And.intro hw q3)
      clear q1 q2 q3 hw hd hy
      go_wp2_with fail
      refine HC.out.mono ?_
      rintro e w2 ⟨rfl, vf2, H2, p1, p2, p3, p4⟩
      have HN := Lib.hid (show TurnRel w w2 B a g c vf _ L Wt (k + 1) vf2 (M.set j 0) H2 from
        ⟨p3, p1, are_turn HQ.out.2 (by decide) (p2.trans (HR.out.free.cons _)), are_less HQ.out.2 (by decide) HQ.out.1, three_set HR.out.three j (.inl rfl), by rw [List.length_set]; exact HR.out.len, (turn_set2 M j HQ.out.2).trans HR.out.same, HR.out.st.trans p4⟩)
      clear p1 p2 p3 p4 HC
      go_wp2_with fail
      go_roundw
      case rel => exact ⟨k + 1, _, _, _, by omega, by go_num, HN⟩
      case measure => simp [intOf]; omega
    · have hkn : k = wn := by omega
      subst hkn
      have c3 : wr.cell? ⟨a, 2, none⟩ = some (.slice aw k cw) := row_cells HR.out.mem.hp.box 2
      have f3 := box_frozen HR.out.mem.hp.box 2
      have hz := HR.out.wait
      rw [List.drop_eq_nil_of_le (by rw [HL.out.2.2]; exact Nat.le_refl _)] at hz
      have hz0 : areL M 2 = [] := hz.nil_eq.symm
      have ht : M = turnL L := by rw [← HR.out.same]; exact (turn_none2 M 0 hz0).symm
      have hw := HR.out.mem.wnil
      have HE := Lib.hid (St.sp (r := .int .i64 (k : Int)) (HR.out.st.trans hw.2) hw.1 HR.out.hp HR.out.free (by rw [hz0]) HR.out.three (by rw [HR.out.len]; exact HL.out.1) (by rw [HR.out.len]; exact HL.out.2.1))
      rw [ht] at HE
      clear hz hz0 hw ht
      go_wp2_with fail
      go_ret
      exact HE.out
end Go.Proofs.Yteoekfmjlmpmgaa
