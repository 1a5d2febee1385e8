/- The program's journal: Room, Records, Bytes, Sync. No statement is proved here. -/
import Derived.Test.YtophhnolnlbecaaDoorJPr8
namespace Go.Proofs.YtophhnolnlbecaaDoor
open Go.RowKit
set_option maxRecDepth 100000

section
variable {w w' : World} {g N : Nat} {d : Dk}
/-- Some of the blocks off which the rows lie turned. -/
theorem BoxAt.onlyT {lo : Nat} {S T S' : Nat → Prop} (h : BoxAt w ⟨lo, S⟩ g d N) (hT : ∀ y, T y → S y) (ho : ∀ k, k < w.heap.size → ¬ T k → w'.heap[k]? = w.heap[k]?) (hy : ∀ y, T y → y < w.heap.size → ∃ cur t fr, w.heap[y]? = some (.cells cur t fr) ∧ t ≠ 77 ∧ t ≠ 100) (hS : ∀ y, S' y → S y ∨ w.heap.size ≤ y) : BoxAt w' ⟨lo, S'⟩ g d N := by
  obtain ⟨k, s, h⟩ := h
  have hr : ∀ v r, RowAt w ⟨lo, S⟩ v r → RowAt w' ⟨lo, S'⟩ v r := fun v r hr => by
    have h1 := hr.keep (w' := w') fun b hb => ho b (hr.block b hb).choose_spec.2.2 (fun e => hr.2.2 b hb (hT b e))
    exact ⟨h1.1, h1.2.1, fun b hb e => by
      rcases hS b e with h2 | h2
      · exact hr.2.2 b hb h2
      · have := (hr.block b hb).choose_spec.2.2
        omega⟩
  have ng : ¬ T g := fun hs => by
    obtain ⟨cur, t, fr, e, h1, h2⟩ := hy g hs h.lt
    rw [h.box] at e
    injection e with e
    injection e with _ e
    exact h1 e.symm
  have ns : ¬ T s.sb := fun hs => by
    obtain ⟨cur, t, fr, e, h1, h2⟩ := hy _ hs h.sbLt
    obtain ⟨es, c, e2⟩ := h.sbObj
    rw [e2] at e
    injection e with e
    cases e
  have nn : ¬ T s.nb := fun hs => by
    obtain ⟨cur, t, fr, e, h1, h2⟩ := hy _ hs h.nbLt
    obtain ⟨es, c, e2⟩ := h.nbObj
    rw [e2] at e
    injection e with e
    cases e
  have nw : ∀ b, s.wv.ownBlock = some b → ¬ T b := fun b hb hs => by
    obtain ⟨cu, e2, -, hlt⟩ := h.wvObj b hb
    obtain ⟨cur, t, fr, e, h1, h2⟩ := hy b hs hlt
    rw [e2] at e
    injection e with e
    injection e with _ e
    exact h2 e.symm
  exact ⟨k, s, { box := (ho g h.lt ng).trans h.box, gB := h.gB, sB := h.sB, nB := h.nB, ne := h.ne, mapS := owns_keep h.mapS (ho _ h.sbLt ns), mapN := owns_keep h.mapN (ho _ h.nbLt nn), isS := h.isS.rebase hr, isN := h.isN.rebase hr, wlen := h.wlen, wait := row_keepW h.wait fun b hb => ho b (h.wvObj b hb).choose_spec.2.2 (nw b hb), rows := fun i p v a b => hr v p.2 (h.rows i p v a b), numS := h.numS, numN := h.numN, many := h.many, acts := h.acts }⟩
end
section
variable {B : Nat} {w w' : World} {F : List Nat} {a h db : Nat} {v : Value} {J : JS}
theorem JAt.c0 (H : JAt B w F a h db v J) : w.cell? ⟨a, 0, none⟩ = some (.pointer (some ⟨h, 0, none⟩)) := row_cells H.obj 0
theorem JAt.c1 (H : JAt B w F a h db v J) : w.cell? ⟨a, 1, none⟩ = some (.int .i64 (J.fr : Int)) := row_cells H.obj 1
theorem JAt.c2 (H : JAt B w F a h db v J) : w.cell? ⟨a, 2, none⟩ = some (.int .i64 (sizeJ J.many)) := row_cells H.obj 2
theorem JAt.c3 (H : JAt B w F a h db v J) : w.cell? ⟨a, 3, none⟩ = some (.int .i64 J.e) := row_cells H.obj 3
theorem JAt.c4 (H : JAt B w F a h db v J) : w.cell? ⟨a, 4, none⟩ = some (.int .i64 (J.rs.length : Int)) := row_cells H.obj 4
theorem JAt.c5 (H : JAt B w F a h db v J) : w.cell? ⟨a, 5, none⟩ = some (.int .i64 (J.len : Int)) := row_cells H.obj 5
theorem JAt.c6 (H : JAt B w F a h db v J) : w.cell? ⟨a, 6, none⟩ = some v := row_cells H.obj 6
theorem JAt.c7 (H : JAt B w F a h db v J) : w.cell? ⟨a, 7, none⟩ = some (.func (.func 69) #[] #[.pointer (some ⟨db, 0, none⟩)]) := row_cells H.obj 7
theorem JAt.die (H : JAt B w F a h db v J) : JAt B (w.setCell ⟨db, 0, none⟩ (.bool true)) F a h db v { J with dead := true } := by
  have ne : ∀ {b : Nat} {cs : Array Value} {t : TypeId}, w.heap[b]? = some (.cells cs t) → t ≠ 4 → b ≠ db := fun hb ht e => by
    subst e
    rw [H.box] at hb
    injection hb with hb
    injection hb with _ hb
    exact ht hb.symm
  refine ⟨(Below.heap_setCell _ _ _ _ (ne H.obj (by decide))).trans H.obj, (Below.heap_setCell _ _ _ _ (ne H.disk (by decide))).trans H.disk, ?_, H.last.keep fun g hg => ?_, H.blocks, H.low⟩
  · have := heap_setCell_same _ _ 0 _ _ (.bool true) H.box
    simpa using this
  · obtain ⟨cur, hc⟩ := own_obj H.last hg
    exact Below.heap_setCell _ _ _ _ (ne hc (by decide))
theorem JS.len_ok {d : Dk} (h : J.ok d) : J.len ≤ 300000000 := by
  have h1 := h.fits
  have h2 := h.small
  have h3 := h.len
  omega
end
set_option maxHeartbeats 4000000 in
theorem proom_any {W : World} (F : List Nat) (a : Nat) (J : JS) (w : World) (d : Dk) (HJ : JnP W w F a J) (hJ : J.ok d) : Calls Tryd.prog 21 #[.pointer (some ⟨a, 0, none⟩)] w fun en w' => en = .returned (.int .i64 J.room) ∧ Below w.heap.size w w' := by
  obtain ⟨h, db, v, H⟩ := HJ
  have c2 := H.c2
  have c5 := H.c5
  rw [sizeJ_is hJ] at c2
  have hl := JS.len_ok hJ
  have hmm : J.many ≤ 65536 := by have := hJ.fits; have := hJ.small; omega
  have HB := Lib.hid (fun U => pbegin_any J.len (by omega) U)
  have hbl := begins_le J.len
  have HR := Lib.hid (show J.room = 4032 * (J.many : Int) - (begins J.len : Int) - 20 from rfl)
  generalize begins J.len = p at *
  clear H hJ
  generalize J.len = L at *
  generalize J.many = M at *
  go_enter Tryd.func21, Tryd.ntmps21
  go_wp2_with fail
  go_region_held3 (fun w' => w'.cell? ⟨a, 2, none⟩ = some (.int .i64 (4032 * (M : Int))) ∧ w'.cell? ⟨a, 5, none⟩ = some (.int .i64 (L : Int)))
    (first
      | exact ⟨c2, c5⟩
      | go_keep)
    (first
      | (go_at_call 42; refine (HB.out _).mono ?_; rintro e w3 ⟨rfl, rfl⟩))
  go_wp2_with fail
  go_ret
  have e1 : IntKind.i64.wrap (4032 * (M : Int) - (p : Int)) = 4032 * (M : Int) - (p : Int) := by rw [IntKind.wrap_i64]; omega
  have e2 : IntKind.i64.wrap (4032 * (M : Int) - (p : Int) - 20) = 4032 * (M : Int) - (p : Int) - 20 := by rw [IntKind.wrap_i64]; omega
  refine ⟨?_, (Below.refl _ _).drew⟩
  rw [HR.out, e1, e2]
  rfl
theorem precords_any {W : World} (F : List Nat) (a : Nat) (J : JS) (w : World) (HJ : JnP W w F a J) : Calls Tryd.prog 32 #[.pointer (some ⟨a, 0, none⟩)] w fun en w' => en = .returned (.int .i64 (J.rs.length : Int)) ∧ Below w.heap.size w w' := by
  obtain ⟨h, db, v, H⟩ := HJ
  have c4 := H.c4
  clear H
  go_enter Tryd.func32, Tryd.ntmps32
  go_wp2_with fail
  go_ret
  exact ⟨rfl, Below.refl _ _⟩
theorem pbytesJ_any {W : World} (F : List Nat) (a : Nat) (J : JS) (w : World) (HJ : JnP W w F a J) : Calls Tryd.prog 24 #[.pointer (some ⟨a, 0, none⟩)] w fun en w' => en = .returned (.int .i64 (J.len : Int)) ∧ Below w.heap.size w w' := by
  obtain ⟨h, db, v, H⟩ := HJ
  have c5 := H.c5
  clear H
  go_enter Tryd.func24, Tryd.ntmps24
  go_wp2_with fail
  go_ret
  exact ⟨rfl, Below.refl _ _⟩
theorem psyncD_any {W : World} (F : List Nat) (a : Nat) (J : JS) (w : World) (HJ : JnP W w F a J) (hd : J.dead = true) : Calls Tryd.prog 31 #[.pointer (some ⟨a, 0, none⟩)] w fun en w' => en = .returned (errV 151) ∧ Below w.heap.size w w' := by
  obtain ⟨h, db, v, H⟩ := HJ
  have c7 := H.c7
  have hb := H.box
  rw [hd] at hb
  have HH := Lib.hid (heard_dead db 0 w hb)
  rw [errV_zero, errV_mk (n := 151) (by decide)] at HH
  rw [errV_mk (n := 151) (by decide)]
  clear H hb hd
  go_enter Tryd.func31, Tryd.ntmps31
  go_wp2_with (go_at_call 69; refine HH.out.mono ?_; rintro e w3 ⟨rfl, rfl⟩)
  go_ret
  exact ⟨rfl, Below.refl _ _⟩
set_option maxHeartbeats 8000000 in
theorem psync_any {W : World} (F : List Nat) (a : Nat) (J : JS) (w : World) (lo N : Nat) (X : Nat → Prop) (d : Dk) (hW : Below W.heap.size W w) (HJ : JnP W w F a J) (hlo : W.heap.size ≤ lo) (hbx : BoxAt w ⟨lo, fun y => y ∈ F ∨ X y⟩ J.g d N) (hN : N ≤ 1099511627776) (hd : J.dead = false) :
    Calls Tryd.prog 31 #[.pointer (some ⟨a, 0, none⟩)] w fun en w' => en = .returned (errV d.syncE) ∧ ∃ F', JnP W w' F' a { J with dead := decide (d.syncE ≠ 0) } ∧ (∀ b ∈ F', b ∈ F ∨ w.heap.size ≤ b) ∧ BoxAt w' ⟨lo, fun y => y ∈ F' ∨ X y⟩ J.g d.sync N ∧ JTurns F W.heap.size w w' := by
  obtain ⟨h, db, v, H⟩ := HJ
  have c0 := H.c0
  have c7 := H.c7
  have hb := H.box
  rw [hd] at hb
  have HH := Lib.hid (heard_good db w hb)
  have HS := Lib.hid (dsync_any h J.g w.drew ⟨lo, fun y => y ∈ F ∨ X y⟩ N d (by exact H.disk) (hbx.then_ (Below.refl _ w).drew) hN)
  have HA := Lib.hid (And.intro H (And.intro hb hbx))
  have HW := Lib.hid hW
  clear H hb hbx hW
  by_cases hE : d.syncE = 0
  · have HE := Lib.hid hE
    rw [hE] at HS ⊢
    rw [errV_zero] at HS ⊢
    have HEND := Lib.hid (show ∀ w2, BoxAt w2 ⟨lo, fun y => y ∈ F ∨ X y⟩ J.g d.sync N → Turns TB lo w.drew w2 → ∃ F', JnP W w2 F' a { J with dead := decide ((0 : Int) ≠ 0) } ∧ (∀ b ∈ F', b ∈ F ∨ w.heap.size ≤ b) ∧ BoxAt w2 ⟨lo, fun y => y ∈ F' ∨ X y⟩ J.g d.sync N ∧ JTurns F W.heap.size w w2 from fun w2 k1 k2 => by
      have H2 := (HA.out.1.then_ (w' := w.drew) (Below.refl _ w).drew).turns k2
      have ej : { J with dead := decide ((0 : Int) ≠ 0) } = J := by
        obtain ⟨x1, x2, x3, x4, x5, x6⟩ := J
        subst hd
        rfl
      rw [ej]
      exact ⟨F, ⟨h, db, v, H2⟩, fun b hb => .inl hb, k1, ⟨(Below.drew (Below.refl _ w)).trans (k2.below.mono hlo), fun b o e1 e2 e3 => k2.block b o e1 e2⟩⟩)
    have HG := Lib.hid (fun w2 (k2 : Turns TB lo w.drew w2) => heard_good db w2 (by
      have := ((HA.out.1.then_ (w' := w.drew) (Below.refl _ w).drew).turns k2).box
      rwa [hd] at this))
    have HC := Lib.hid (fun w2 (k2 : Turns TB lo w.drew w2) => (show w2.cell? ⟨a, 0, none⟩ = some (.pointer (some ⟨h, 0, none⟩)) ∧ w2.cell? ⟨a, 7, none⟩ = some (.func (.func 69) #[] #[.pointer (some ⟨db, 0, none⟩)]) from
      ⟨((HA.out.1.then_ (w' := w.drew) (Below.refl _ w).drew).turns k2).c0, ((HA.out.1.then_ (w' := w.drew) (Below.refl _ w).drew).turns k2).c7⟩))
    clear hE
    go_enter Tryd.func31, Tryd.ntmps31
    go_wp2_with (go_at_call 69; refine HH.out.mono ?_; rintro e w3 ⟨rfl, rfl⟩)
    go_region_held3 (fun w' => w'.cell? ⟨a, 0, none⟩ = some (.pointer (some ⟨h, 0, none⟩)) ∧ w'.cell? ⟨a, 7, none⟩ = some (.func (.func 69) #[] #[.pointer (some ⟨db, 0, none⟩)]))
      (first
        | exact ⟨c0, c7⟩
        | exact k7
        | go_keep)
      (first
        | (go_at_call 28; refine HS.out.mono ?_; rintro e w3 ⟨rfl, r3, t3⟩; have k7 := HC.out w3 t3; have H3 := Lib.hid (And.intro r3 t3); clear r3 t3)
        | (go_at_call 69; refine (HG.out _ H3.out.2).mono ?_; rintro e w3 ⟨rfl, rfl⟩))
    go_wp2_with fail
    go_ret
    exact ⟨rfl, HEND.out _ H3.out.1 H3.out.2⟩
  · have HEND := Lib.hid (show ∀ w2, BoxAt w2 ⟨lo, fun y => y ∈ F ∨ X y⟩ J.g d.sync N → Turns TB lo w.drew w2 → ∃ F', JnP W (w2.setCell ⟨db, 0, none⟩ (.bool true)) F' a { J with dead := decide (d.syncE ≠ 0) } ∧ (∀ b ∈ F', b ∈ F ∨ w.heap.size ≤ b) ∧ BoxAt (w2.setCell ⟨db, 0, none⟩ (.bool true)) ⟨lo, fun y => y ∈ F' ∨ X y⟩ J.g d.sync N ∧ JTurns F W.heap.size w (w2.setCell ⟨db, 0, none⟩ (.bool true)) from fun w2 k1 k2 => by
      have H2 := (HA.out.1.then_ (w' := w.drew) (Below.refl _ w).drew).turns k2
      have hm := (H2.mem db).2 (.inr (.inr (.inl rfl)))
      have off : ∀ k, k ≠ db → (w2.setCell ⟨db, 0, none⟩ (.bool true)).heap[k]? = w2.heap[k]? := fun k hk => Below.heap_setCell _ _ _ _ hk
      rw [decide_eq_true hE]
      refine ⟨F, ⟨h, db, v, H2.die⟩, fun b hb => .inl hb, k1.onlyT (T := fun y => y = db) (fun y e => .inl (by rw [e]; exact hm)) (fun k _ hk => off k hk) (fun y e _ => by rw [e]; exact ⟨_, _, _, H2.box, by decide, by decide⟩) (fun y e => .inl e), ⟨?_, fun b o e1 e2 e3 => (off b (fun e => e3 (by rw [e]; exact hm))).trans (k2.block b o e1 e2)⟩⟩
      exact ((Below.drew (Below.refl _ w)).trans (k2.below.mono hlo)).setCell (p := ⟨db, 0, none⟩) H2.low.2.2 _)
    have HG := Lib.hid (fun w2 (k2 : Turns TB lo w.drew w2) => heard_bad db d.syncE hE w2 (by
      have := ((HA.out.1.then_ (w' := w.drew) (Below.refl _ w).drew).turns k2).box
      rwa [hd] at this))
    have HC := Lib.hid (fun w2 (k2 : Turns TB lo w.drew w2) => (show w2.cell? ⟨a, 0, none⟩ = some (.pointer (some ⟨h, 0, none⟩)) ∧ w2.cell? ⟨a, 7, none⟩ = some (.func (.func 69) #[] #[.pointer (some ⟨db, 0, none⟩)]) from
      ⟨((HA.out.1.then_ (w' := w.drew) (Below.refl _ w).drew).turns k2).c0, ((HA.out.1.then_ (w' := w.drew) (Below.refl _ w).drew).turns k2).c7⟩))
    rw [errV_mk hE] at HS HG
    rw [errV_mk hE]
    have HCJ := Lib.hid (fun w2 (k2 : Turns TB lo w.drew w2) => (show (w2.setCell ⟨db, 0, none⟩ (.bool true)).cell? ⟨a, 0, none⟩ = some (.pointer (some ⟨h, 0, none⟩)) ∧ (w2.setCell ⟨db, 0, none⟩ (.bool true)).cell? ⟨a, 7, none⟩ = some (.func (.func 69) #[] #[.pointer (some ⟨db, 0, none⟩)]) from
      ⟨((HA.out.1.then_ (w' := w.drew) (Below.refl _ w).drew).turns k2).die.c0, ((HA.out.1.then_ (w' := w.drew) (Below.refl _ w).drew).turns k2).die.c7⟩))
    generalize hgs : d.syncE = se at *
    clear hE
    go_enter Tryd.func31, Tryd.ntmps31
    go_wp2_with (go_at_call 69; refine HH.out.mono ?_; rintro e w3 ⟨rfl, rfl⟩)
    go_region_held3 (fun w' => w'.cell? ⟨a, 0, none⟩ = some (.pointer (some ⟨h, 0, none⟩)) ∧ w'.cell? ⟨a, 7, none⟩ = some (.func (.func 69) #[] #[.pointer (some ⟨db, 0, none⟩)]))
      (first
        | exact ⟨c0, c7⟩
        | exact k7
        | exact k8
        | go_keep)
      (first
        | (go_at_call 28; refine HS.out.mono ?_; rintro e w3 ⟨rfl, r3, t3⟩; have k7 := HC.out w3 t3; have H3 := Lib.hid (And.intro r3 t3); clear r3 t3)
        | (go_at_call 69; refine (HG.out _ H3.out.2).mono ?_; rintro e w4 ⟨rfl, e4⟩; have k8 := HCJ.out _ H3.out.2; rw [← e4] at k8; have E4 := Lib.hid e4; clear e4))
    go_wp2_with fail
    go_ret
    rw [E4.out]
    exact ⟨rfl, HEND.out _ H3.out.1 H3.out.2⟩
end Go.Proofs.YtophhnolnlbecaaDoor
