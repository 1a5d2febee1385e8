/- The program's heap: one more. No statement is proved here. -/
import Derived.Test.YteoekfmjlmpmgaaHPr1
namespace Go.Proofs.Yteoekfmjlmpmgaa
open Go.RowKit
set_option maxRecDepth 100000

/-- A call on a heap: what it tells, and how the heap lies then. -/
def HpTo (w : World) (B a : Nat) (vs vf vw : Value) (Q : List Int → Prop) (r : Value) (e : Ending) (w' : World) : Prop :=
  e = .returned r ∧ ∃ vf' H', Q H' ∧ HeapAt w' B a vs vf' vw H' ∧ Only (a :: vf.ownBlock.toList) w w' ∧ (vf'.ownBlock = vf.ownBlock ∨ ∃ g, vf'.ownBlock = some g ∧ w.heap.size ≤ g)
set_option maxHeartbeats 4000000 in
theorem push_any (B a : Nat) (vs vf vw : Value) (H : List Int) (x : Int) (w : World) (hh : HeapAt w B a vs vf vw H) (hp : heapP H) (hm : H.length ≤ 100000) (hx : okInt x) :
    Calls Try.prog 24 #[.pointer (some ⟨a, 1, none⟩), .int .i64 x] w (HpTo w B a vs vf vw (fun H' => heapP H' ∧ H'.Perm (x :: H)) (.tuple #[])) := by
  have hB : B ≤ w.heap.size := Nat.le_trans hh.low (Nat.le_of_lt (lt_of_block hh.box))
  have c1 : w.cell? ⟨a, 1, none⟩ = some vf := row_cells hh.box 1
  have hlen : (H ++ [x]).length = H.length + 1 := by simp
  obtain ⟨af, cf, e, -⟩ := hh.own.shape
  subst e
  have HH := Lib.hid hh
  have HP := Lib.hid (And.intro hp hlen)
  generalize hn : H.length = n at *
  clear hh hp hlen hx
  go_enter Try.func24, Try.ntmps24
  go_wp2_with (first
    | (at_builtin; refine apIL _ rfl (.tmp 10) (.tmp 12) rfl B _ _ rfl HH.out.own [x] _ 1 1 rfl rfl rfl rfl (by omega) hB ?_; intro v' w1 hg; obtain ⟨g, c, e, hc⟩ := hg.own.form (by rw [HP.out.2]; omega); rw [HP.out.2] at e; subst e; have G := Lib.hid (HH.out.put hg); have c2 : w1.cell? ⟨a, 1, none⟩ = some (.slice af n cf) := row_cells G.out.2.2 1; have f2 := box_frozen G.out.2.2 1; have GA : Hid ((Value.slice (some ⟨g, 0, none⟩) (n + 1) c).ownBlock = (Value.slice af n cf).ownBlock ∨ ∃ q, (Value.slice (some ⟨g, 0, none⟩) (n + 1) c).ownBlock = some q ∧ w.heap.size ≤ q) := Lib.hid hg.at_; clear hg hc))
  go_loopw [4] (fun t wr => ∃ (k : Nat) (M : List Int), k < n + 1 ∧ t = .int .i64 (k : Int) ∧ M.length = n + 1 ∧ Hid (HeapAt wr B a vs (.slice (some ⟨g, 0, none⟩) (n + 1) c) vw M ∧ upP M k ∧ M.Perm (x :: H) ∧ Only (a :: (Value.slice af n cf).ownBlock.toList) w wr)) (fun t _ => (intOf t).toNat)
  case atStart => exact ⟨n, _, by omega, by go_num, HP.out.2, Lib.hid ⟨G.out.1, by rw [← hn]; exact up_snoc HP.out.1 x, List.perm_append_comm, G.out.2.1⟩⟩
  case round =>
    obtain ⟨k, M, hk, rfl, hl, HR⟩ := hrel
    have c3 : wr.cell? ⟨a, 1, none⟩ = some (.slice (some ⟨g, 0, none⟩) (n + 1) c) := row_cells HR.out.1.box 1
    by_cases h0 : k = 0
    · subst h0
      clear c3
      go_wp2_with fail
      exact ⟨rfl, .tuple #[], results_void rfl _ _, rfl, _, M, ⟨up_done HR.out.2.1 (.inl rfl), HR.out.2.2.1⟩, HR.out.1, HR.out.2.2.2, GA.out⟩
    · obtain ⟨p, hp⟩ : ∃ p : Nat, p = (k - 1) / 2 := ⟨_, rfl⟩
      have hp1 : p < n + 1 := by omega
      have hq : ((k : Int) - 1).tdiv 2 = (p : Int) := by rw [Int.tdiv_eq_ediv_of_nonneg (by omega)]; omega
      obtain ⟨ck, fk⟩ := HR.out.1.own.at_ (get_gI (H := M) (i := k) (by omega))
      obtain ⟨cp, fp⟩ := HR.out.1.own.at_ (get_gI (H := M) (i := p) (by omega))
      generalize hxk : gI M k = xk at *
      generalize hxp : gI M p = xp at *
      have HX := Lib.hid (And.intro hp (And.intro hxk hxp))
      clear hp hxk hxp
      by_cases hle : xp ≤ xk
      · go_wp2_with fail
        go_quiet (fail)
        go_wp2_with fail
        exact ⟨rfl, .tuple #[], results_void rfl _ _, rfl, _, M, ⟨up_done HR.out.2.1 (.inr (by rw [← HX.out.1, HX.out.2.1, HX.out.2.2]; exact hle)), HR.out.2.2.1⟩, HR.out.1.drewN _, HR.out.2.2.2.drewN _, GA.out⟩
      · have hle2 : xk < xp := by omega
        go_wp2_with fail
        go_quiet (fail)
        have HC := Lib.hid (swap_any B a g c (n + 1) vs vw M p k (wr.drewN nq) (HR.out.1.drewN nq) hl hp1 hk (by omega))
        have HS : Hid (upP (swapL M p k) p ∧ (swapL M p k).Perm (x :: H) ∧ (swapL M p k).length = n + 1) := Lib.hid ⟨up_swap HR.out.2.1 HX.out.1 (by omega) (by omega) (by rw [HX.out.2.1, HX.out.2.2]; exact hle2), (swapL_perm (by omega) (by omega)).trans HR.out.2.2.1, by rw [swapL_len]; exact hl⟩
        clear ck fk cp fp hq c3
        go_wp2_with fail
        refine HC.out.mono ?_
        rintro e w2 ⟨rfl, h1, h2⟩
        have H2 : Hid (HeapAt w2 B a vs (.slice (some ⟨g, 0, none⟩) (n + 1) c) vw (swapL M p k) ∧ Only (a :: (Value.slice af n cf).ownBlock.toList) w w2) := Lib.hid ⟨h1, (HR.out.2.2.2.drewN nq).then_ h2 (fun i hi => by
          rw [List.mem_singleton.1 hi]
          rcases GA.out with h5 | ⟨q, h5, h6⟩
          · exact .inl (List.mem_cons_of_mem _ (by rw [← h5]; simp [Value.ownBlock]))
          · have h7 : g = q := by simpa [Value.ownBlock] using h5
            exact .inr (by rw [h7]; exact h6))⟩
        clear h1 h2
        go_wp2_with fail
        go_roundw
        case rel => exact ⟨p, _, hp1, rfl, HS.out.2.2, Lib.hid ⟨H2.out.1, HS.out.1, HS.out.2.1, H2.out.2⟩⟩
        case measure => have := HX.out.1; simp [intOf]; omega
end Go.Proofs.Yteoekfmjlmpmgaa
