/- The program's heap: the least taken away. No statement is proved here. -/
import Derived.Test.YteoekfmjlmpmgaaHPr3
import Derived.WalkSmall
namespace Go.Proofs.Yteoekfmjlmpmgaa
open Go.RowKit
set_option maxRecDepth 100000

theorem OwnI.pop {w : World} {B g n c : Nat} {l : List Int} {x : Int} (h : OwnI w B (.slice (some ⟨g, 0, none⟩) (n + 1) c) (l ++ [x])) (hl : l.length = n) : OwnI w B (.slice (some ⟨g, 0, none⟩) n c) l := by
  subst hl
  unfold OwnI at *
  rw [itV_append] at h
  have e : (l ++ [x]).length = l.length + 1 := by simp
  rw [e] at h
  exact ownsRow_pop (by rw [itV_len]; omega) h
theorem HeapAt.cut {w : World} {B a g n c : Nat} {vs vw : Value} {l : List Int} {x : Int} (h : HeapAt w B a vs (.slice (some ⟨g, 0, none⟩) (n + 1) c) vw (l ++ [x])) (hl : l.length = n) :
    HeapAt (w.setCell ⟨a, 1, none⟩ (.slice (some ⟨g, 0, none⟩) n c)) B a vs (.slice (some ⟨g, 0, none⟩) n c) vw l ∧ Only [a] w (w.setCell ⟨a, 1, none⟩ (.slice (some ⟨g, 0, none⟩) n c)) := by
  have hga : g ≠ a := fun e => h.off (by rw [e]; rfl)
  refine ⟨⟨set_heap h.box _, (h.own.pop hl).keep fun b hb => set_off w _ (fun e => hga ?_), h.off, h.low⟩, (Only.refl _ _).setCell (p := ⟨a, 1, none⟩) (.inl (List.mem_singleton.2 rfl)) _⟩
  have hb : g = b := by simpa [Value.ownBlock] using hb
  rw [hb, e]
/-- What pop tells. -/
def PopTo (w : World) (B a : Nat) (vs vf vw : Value) (H : List Int) (e : Ending) (w' : World) : Prop :=
  (H = [] ∧ e = .returned (.tuple #[.int .i64 0, .bool false]) ∧ w = w') ∨
  (0 < H.length ∧ e = .returned (.tuple #[.int .i64 (gI H 0), .bool true]) ∧ ∃ vf' M, heapP M ∧ M.Perm (popL H) ∧ HeapAt w' B a vs vf' vw M ∧ vf'.ownBlock = vf.ownBlock ∧ Only (a :: vf.ownBlock.toList) w w')
set_option maxHeartbeats 4000000 in
theorem pop_any (B a : Nat) (vs vf vw : Value) (H : List Int) (w : World) (hh : HeapAt w B a vs vf vw H) (hp : heapP H) (hm : H.length ≤ 100000) :
    Calls Try.prog 33 #[.pointer (some ⟨a, 1, none⟩)] w (PopTo w B a vs vf vw H) := by
  have c1 : w.cell? ⟨a, 1, none⟩ = some vf := row_cells hh.box 1
  by_cases h0 : H = []
  · subst h0
    obtain ⟨af, cf, e, -⟩ := hh.own.shape
    subst e
    clear hh hp
    have e0 : ([] : List Int).length = 0 := rfl
    rw [e0] at c1
    go_enter Try.func33, Try.ntmps33
    go_wp2_with fail
    go_ret2
    exact .inl ⟨rfl, rfl, rfl⟩
  · have hpos : 0 < H.length := List.length_pos_iff.2 h0
    obtain ⟨g, c, e, hcc⟩ := hh.own.form hpos
    subst e
    obtain ⟨n, hn⟩ : ∃ n, H.length = n + 1 := ⟨H.length - 1, by omega⟩
    have hsw : swapL H 0 n = popL H ++ [gI H 0] := by have := swapL_pop hpos; rw [hn] at this; exact this
    have hpl : (popL H).length = n := by rw [popL_len, hn]; rfl
    have HP := Lib.hid (And.intro hp (And.intro hsw (And.intro hpl (And.intro hn hpos))))
    rw [hn] at hh c1 hm hcc
    have HC := Lib.hid (swap_any B a g c (n + 1) vs vw H 0 n w hh hn (by omega) (by omega) (by omega))
    clear hp hsw hpl hpos hh hn h0
    go_enter Try.func33, Try.ntmps33
    go_wp2_with fail
    refine HC.out.mono ?_
    rintro e w1 ⟨rfl, h1, h2⟩
    rw [HP.out.2.1] at h1
    have c2 : w1.cell? ⟨a, 1, none⟩ = some (.slice (some ⟨g, 0, none⟩) (n + 1) c) := row_cells h1.box 1
    have f2 := box_frozen h1.box 1
    obtain ⟨c3, f3⟩ := h1.own.at_ (j := n) (x := gI H 0) (by rw [List.getElem?_append_right (by rw [HP.out.2.2.1]; exact Nat.le_refl _), HP.out.2.2.1, Nat.sub_self]; rfl)
    have H2 := Lib.hid (And.intro (h1.cut HP.out.2.2.1) h2)
    clear h1 h2 HC
    generalize hx : gI H 0 = x at *
    have HX := Lib.hid hx
    clear hx
    go_wp2_with fail
    refine (sink_any B a g c n vs vw (popL H) _ H2.out.1.1 HP.out.2.2.1 (popL_down HP.out.1) (by omega)).mono ?_
    rintro e w2 ⟨rfl, M, h1, h2, h3, h4⟩
    have H3 := Lib.hid (And.intro h1 (And.intro h2 (And.intro h3 h4)))
    clear h1 h2 h3 h4
    go_wp2_with fail
    go_ret2
    have e1 : Only (a :: (Value.slice (some ⟨g, 0, none⟩) H.length c).ownBlock.toList) w w2 :=
      ((H2.out.2.mono (S' := [a, g]) fun k hk => .inl (by simp_all)).trans (H2.out.1.2.mono fun k hk => .inl (by simp_all))).trans (H3.out.2.2.2.mono fun k hk => .inl (by simp_all))
    exact .inr ⟨HP.out.2.2.2.2, by (rw [HX.out]; rfl), _, M, H3.out.1, H3.out.2.1, H3.out.2.2.1, rfl, e1⟩
end Go.Proofs.Yteoekfmjlmpmgaa
