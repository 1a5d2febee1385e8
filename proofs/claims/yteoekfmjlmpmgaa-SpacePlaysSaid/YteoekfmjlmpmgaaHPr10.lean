/- The program's space: Clone. No statement is proved here. -/
import Derived.Test.YteoekfmjlmpmgaaHPr9
namespace Go.Proofs.Yteoekfmjlmpmgaa
open Go.RowKit
set_option maxRecDepth 100000

theorem PspM.base {w : World} {B B' a g c : Nat} {vf vw : Value} {L H Wt : List Int} (h : PspM w B a g c vf vw L H Wt) (hB : B' ≤ B) : PspM w B' a g c vf vw L H Wt :=
  ⟨⟨h.hp.box, h.hp.own.base hB, h.hp.off, Nat.le_trans hB h.hp.low⟩, h.st.base hB, h.wt.base hB, h.d1, h.d2, h.d3, h.d4, h.d5⟩
set_option maxHeartbeats 4000000 in
theorem clone_any (B : Nat) (F : List Nat) (a : Nat) (L : List Int) (w : World) (h : PSp B w F a L) :
    Calls Try.prog 12 #[.pointer (some ⟨a, 0, none⟩)] w fun e w' => ∃ F2 b, e = .returned (.pointer (some ⟨b, 0, none⟩)) ∧ Below w.heap.size w w' ∧ PSp B w' F2 b L ∧ ∀ x ∈ F2, w.heap.size ≤ x := by
  have HS := Lib.hid h
  obtain ⟨g, c, vf, vw, H, Wt, rfl, h1, h2, h3, h4, h5, h6, h7⟩ := h
  have c0 : w.cell? ⟨a, 0, none⟩ = some (.slice (some ⟨g, 0, none⟩) L.length c) := row_cells h1.hp.box 0
  have c1 : w.cell? ⟨a, 1, none⟩ = some vf := row_cells h1.hp.box 1
  have c2 : w.cell? ⟨a, 2, none⟩ = some vw := row_cells h1.hp.box 2
  have C1 := Lib.hid (fun (W : World) (hb : Below w.heap.size w W) => cloneZ_any B g L.length c L W (h1.st.then_ hb) rfl h6 h7)
  have C2 := Lib.hid (fun (W : World) (hb : Below w.heap.size w W) => hclone_any B a _ vf vw H W (h1.keep fun b hb' => hb.block b (h1.lt b hb').2).hp (Nat.le_trans (perm_len h3) h7))
  have C3 := Lib.hid (fun (W : World) (hb : Below w.heap.size w W) => cloneI_any B vw Wt W (h1.wt.then_ hb) (Nat.le_trans (perm_len h4) h7))
  have HC := Lib.hid (fun (W : World) (hb : Below w.heap.size w W) => (show W.cell? ⟨a, 0, none⟩ = some (.slice (some ⟨g, 0, none⟩) L.length c) ∧ W.cell? ⟨a, 2, none⟩ = some vw from ⟨(hb.cell (cell_lt c0)).trans c0, (hb.cell (cell_lt c2)).trans c2⟩))
  have H1 := Lib.hid (And.intro h1 (And.intro h2 (And.intro h3 (And.intro h4 (And.intro h5 (And.intro h6 h7))))))
  clear h1 h2 h3 h4 h5 h6 h7
  generalize hm : L.length = m at *
  have acc := Below.refl w.heap.size w
  go_enter Try.func12, Try.ntmps12
  go_wp2_with fail
  go_region_held3 (fun w' => w'.cell? ⟨a, 0, none⟩ = some (.slice (some ⟨g, 0, none⟩) m c) ∧ w'.cell? ⟨a, 2, none⟩ = some vw)
    (first
      | exact ⟨c0, c2⟩
      | exact k1
      | exact k2
      | exact k3
      | go_keep)
    (first
      | (go_at_call 25; go_loud (refine (C1.out _ acc.drew).mono ?_); rintro e w1 ⟨g2, c2', rfl, o1, b1⟩; have K1 := Lib.hid (And.intro o1 (below_then acc.drew b1)); have k1 := HC.out _ K1.out.2; clear o1 b1)
      | (go_at_call 26; go_loud (refine (C2.out _ K1.out.2).mono ?_); rintro e w2 ⟨v2, rfl, o2, b2⟩; obtain ⟨a2, q2, e2, -⟩ := o2.shape; subst e2; have K2 := Lib.hid (And.intro o2 (And.intro b2 (below_then K1.out.2 b2))); have k2 := HC.out _ K2.out.2.2; clear o2 b2)
      | (go_at_call 27; go_loud (refine (C3.out _ K2.out.2.2).mono ?_); rintro e w3 ⟨v3, rfl, o3, b3⟩; obtain ⟨a3, q3, e3, -⟩ := o3.shape; subst e3; have K3 := Lib.hid (And.intro o3 (And.intro b3 (below_then K2.out.2.2 b3))); have k3 := HC.out _ K3.out.2.2; clear o3 b3))
  clear k1 k2 k3 c0 c1 c2 C1 C2 C3 HC
  go_wp2_with fail
  go_ret
  have s1 := K1.out.2.size
  have s2 := K2.out.2.1.size
  have s3 := K3.out.2.1.size
  have l1 := K1.out.1.block g2 rfl
  have hB : B ≤ w.heap.size := Nat.le_trans H1.out.1.hp.low (Nat.le_of_lt (lt_of_block H1.out.1.hp.box))
  have hsz : (w3.alloc (.cells #[.slice (some ⟨g2, 0, none⟩) m c2', .slice a2 H.length q2, .slice a3 Wt.length q3] 58)).heap.size = w3.heap.size + 1 := by simp
  have hd : w.drew.heap.size = w.heap.size := rfl
  have l2 : ∀ b, (Value.slice a2 H.length q2).ownBlock = some b → w1.heap.size ≤ b ∧ b < w2.heap.size := K2.out.1.block
  have l3 : ∀ b, (Value.slice a3 Wt.length q3).ownBlock = some b → w2.heap.size ≤ b ∧ b < w3.heap.size := K3.out.1.block
  have M0 : PspM (w3.alloc (.cells #[.slice (some ⟨g2, 0, none⟩) m c2', .slice a2 H.length q2, .slice a3 Wt.length q3] 58)) w.heap.size w3.heap.size g2 c2' (.slice a2 H.length q2) (.slice a3 Wt.length q3) L H Wt := by
    refine ⟨⟨by rw [hm]; exact heap_alloc_new w3 _, ((K2.out.1.then_ K3.out.2.1).alloc _).base (by omega), fun e => ?_, by omega⟩, by rw [hm]; exact (((K1.out.1.then_ K2.out.2.1).then_ K3.out.2.1).alloc _).base (by omega), (K3.out.1.alloc _).base (by omega), by omega, fun e => ?_, fun e => ?_, fun e => ?_, fun b hb e => ?_⟩
    · have := l2 _ e; omega
    · have := l2 _ e; omega
    · have := l3 _ e; omega
    · have := l3 _ e; omega
    · have := l2 _ hb; have := l3 _ e; omega
  refine ⟨_, _, rfl, K3.out.2.2.alloc (by omega) _, ⟨g2, c2', _, _, H, Wt, rfl, M0.base hB, H1.out.2.1, H1.out.2.2.1, H1.out.2.2.2.1, H1.out.2.2.2.2.1, by rw [hm]; exact H1.out.2.2.2.2.2.1, by rw [hm]; exact H1.out.2.2.2.2.2.2⟩, fun x hx => (M0.lt x hx).1⟩
end Go.Proofs.Yteoekfmjlmpmgaa
