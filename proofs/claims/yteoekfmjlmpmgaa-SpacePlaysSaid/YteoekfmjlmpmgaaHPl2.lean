/- A step on both sides tells the same. No statement is proved here. -/
import Derived.Test.YteoekfmjlmpmgaaHPl1
import Derived.Test.YteoekfmjlmpmgaaHPr1
import Derived.Deep.RegionHeld3
namespace Go.Proofs.Yteoekfmjlmpmgaa
open Go.RowKit
set_option maxRecDepth 100000

theorem i64_and1 (n : Int) : ∃ k j : Nat, k + j = 1 ∧ bits .and .i64 n 1 = (k : Int) := by
  have h1 : (BitVec.ofInt 64 1).toNat = 2 ^ 1 - 1 := by decide
  have key : (BitVec.ofInt 64 n &&& BitVec.ofInt 64 1).toNat = (n % ((2 ^ 64 : Nat) : Int)).toNat % 2 ^ 1 := by
    rw [BitVec.toNat_and, BitVec.toNat_ofInt, h1, Nat.and_two_pow_sub_one_eq_mod]
  refine ⟨(n % ((2 ^ 64 : Nat) : Int)).toNat % 2 ^ 1, 1 - (n % ((2 ^ 64 : Nat) : Int)).toNat % 2 ^ 1, by omega, ?_⟩
  show IntKind.i64.wrap ((BitVec.ofInt 64 n &&& BitVec.ofInt 64 1).toNat : Nat) = _
  rw [key, IntKind.wrap_i64]
  omega
/-- The box's pointers: the side at k, and the other one. -/
def csOf (k a b x y : Nat) : Array Value :=
  if k = 0 then #[.pointer (some ⟨a, 0, none⟩), .pointer (some ⟨b, 0, none⟩), .pointer (some ⟨x, 0, none⟩), .pointer (some ⟨y, 0, none⟩)]
  else #[.pointer (some ⟨b, 0, none⟩), .pointer (some ⟨a, 0, none⟩), .pointer (some ⟨y, 0, none⟩), .pointer (some ⟨x, 0, none⟩)]
theorem csOf_get {k j : Nat} (h : k + j = 1) (a b x y : Nat) : (csOf k a b x y)[k]? = some (.pointer (some ⟨a, 0, none⟩)) ∧ (csOf k a b x y)[2 + k]? = some (.pointer (some ⟨x, 0, none⟩)) ∧ (csOf k a b x y)[j]? = some (.pointer (some ⟨b, 0, none⟩)) ∧ (csOf k a b x y)[2 + j]? = some (.pointer (some ⟨y, 0, none⟩)) := by
  rcases (show k = 0 ∧ j = 1 ∨ k = 1 ∧ j = 0 by omega) with ⟨rfl, rfl⟩ | ⟨rfl, rfl⟩ <;> exact ⟨rfl, rfl, rfl, rfl⟩
theorem csOf_set {k j : Nat} (h : k + j = 1) (a b x y b' y' : Nat) : (csOf k a b x y).setIfInBounds j (.pointer (some ⟨b', 0, none⟩)) = csOf k a b' x y ∧ (csOf k a b x y).setIfInBounds (2 + j) (.pointer (some ⟨y', 0, none⟩)) = csOf k a b x y' := by
  rcases (show k = 0 ∧ j = 1 ∨ k = 1 ∧ j = 0 by omega) with ⟨rfl, rfl⟩ | ⟨rfl, rfl⟩ <;> exact ⟨rfl, rfl⟩
/-- Behind a step. -/
def DoneTo (Sp : World → List Nat → Nat → List Int → Prop) (W : World) (q k : Nat) (e : Ending) (w' : World) : Prop :=
  e = .returned (.bool true) ∧ ∃ a x b y L M, Wh Sp W w' [] q (csOf k a b x y) a x b y L L M M
set_option maxHeartbeats 16000000 in
theorem does_any {Sp : World → List Nat → Nat → List Int → Prop} {W w : World} {q a x b y k j : Nat} {L M : List Int} (P : P13 W Sp) (o : Op3) (ho : o.ok) (hk : bits .and .i64 o.on 1 = (k : Int)) (hkj : k + j = 1) (h : Wh Sp W w [] q (csOf k a b x y) a x b y L L M M) :
    Calls Try.prog 14 #[.pointer (some ⟨q, 0, none⟩), .agg #[.int .i64 o.on, .int .i64 o.act, .int .i64 o.n]] w (DoneTo Sp W q k) := by
  have HP := Lib.hid P
  have HN := Lib.hid ho.n
  have hk2 : k < 2 := by omega
  have hj2 : j < 2 := by omega
  have hj : (1 : Int) - (k : Int) = (j : Int) := by omega
  obtain ⟨g0, g1, g2, g3⟩ := csOf_get hkj a b x y
  have HKJ := Lib.hid hkj
  have H1 := Lib.hid (h.fresh P (.cells #[.int .i64 o.on, .int .i64 o.act, .int .i64 o.n] 42))
  have ca := (row_cells H1.out.box k).trans g0
  have cx := (row_cells H1.out.box (2 + k)).trans g1
  have hbx := heap_alloc_new w (.cells #[.int .i64 o.on, .int .i64 o.act, .int .i64 o.n] 42)
  have HX := Lib.hid hbx
  have c0 := row_cells hbx 0
  have c1 := row_cells hbx 1
  have c2 := row_cells hbx 2
  clear P h ho hkj g0 g1 g2 g3 hbx
  by_cases a0 : o.act = 0
  · have e0 : (o.act == 0) = true := by simp [a0]
    clear a0
    go_enter Try.func14, Try.ntmps14
    go_wp2_with fail
    refine (H1.out.sp HP.out (fun F hF => HP.out.take F a L _ H1.out.top hF)).mono ?_
    rintro e w2 ⟨rfl, h2, s2⟩
    have H2 := Lib.hid h2
    clear h2 s2
    go_wp2_with fail
    refine (H2.out.rf HP.out (fun F hF => rtake_any _ F x L _ hF)).mono ?_
    rintro e w3 ⟨rfl, h3, -⟩
    have H3 := Lib.hid h3
    clear h3
    go_wp2_with fail
    go_ret
    exact ⟨by simp, _, _, _, _, _, _, H3.out.less (fun k hk => by cases hk)⟩
  · have e0 : (o.act == 0) = false := by simp [a0]
    by_cases a1 : o.act = 1
    · have e1 : (o.act == 1) = true := by simp [a1]
      clear a0 a1
      go_enter Try.func14, Try.ntmps14
      go_wp2_with fail
      refine (H1.out.sp HP.out (fun F hF => HP.out.drop F a L o.n _ H1.out.top hF HN.out)).mono ?_
      rintro e w2 ⟨rfl, h2, s2⟩
      have H2 := Lib.hid h2
      have cx2 := row_cells ((s2 w.heap.size (by simp)).trans HX.out) 2
      clear h2 s2
      go_wp2_with fail
      refine (H2.out.rf HP.out (fun F hF => rdrop_any _ F x L o.n HN.out _ hF)).mono ?_
      rintro e w3 ⟨rfl, h3, -⟩
      have H3 := Lib.hid h3
      clear h3
      go_wp2_with fail
      go_ret
      exact ⟨by simp, _, _, _, _, _, _, H3.out.less (fun k hk => by cases hk)⟩
    · have e1 : (o.act == 1) = false := by simp [a1]
      by_cases a2 : o.act = 2
      · have e2 : (o.act == 2) = true := by simp [a2]
        clear a0 a1 a2
        go_enter Try.func14, Try.ntmps14
        go_wp2_with fail
        refine (H1.out.sp HP.out (fun F hF => HP.out.back F a L o.n _ H1.out.top hF HN.out)).mono ?_
        rintro e w2 ⟨rfl, h2, s2⟩
        have H2 := Lib.hid h2
        have cx2 := row_cells ((s2 w.heap.size (by simp)).trans HX.out) 2
        clear h2 s2
        go_wp2_with fail
        refine (H2.out.rf HP.out (fun F hF => rback_any _ F x L o.n HN.out _ hF)).mono ?_
        rintro e w3 ⟨rfl, h3, -⟩
        have H3 := Lib.hid h3
        clear h3
        go_wp2_with fail
        go_ret
        exact ⟨by simp, _, _, _, _, _, _, H3.out.less (fun k hk => by cases hk)⟩
      · have e2 : (o.act == 2) = false := by simp [a2]
        by_cases a3 : o.act = 3
        · have e3 : (o.act == 3) = true := by simp [a3]
          clear a0 a1 a2 a3
          go_enter Try.func14, Try.ntmps14
          go_wp2_with fail
          refine (H1.out.sp HP.out (fun F hF => HP.out.turn F a L _ H1.out.top hF)).mono ?_
          rintro e w2 ⟨rfl, h2, s2⟩
          have H2 := Lib.hid h2
          clear h2 s2
          go_wp2_with fail
          refine (H2.out.rf HP.out (fun F hF => rturn_any _ F x L _ hF)).mono ?_
          rintro e w3 ⟨rfl, h3, -⟩
          have H3 := Lib.hid h3
          clear h3
          go_wp2_with fail
          go_ret
          exact ⟨by simp, _, _, _, _, _, _, H3.out.less (fun k hk => by cases hk)⟩
        · have e3 : (o.act == 3) = false := by simp [a3]
          by_cases a4 : o.act = 4
          · have e4 : (o.act == 4) = true := by simp [a4]
            clear a0 a1 a2 a3 a4
            go_enter Try.func14, Try.ntmps14
            go_wp2_with fail
            refine (H1.out.told HP.out).mono ?_
            rintro e w2 ⟨rfl, h2, -⟩
            have H2 := Lib.hid h2
            clear h2
            go_wp2_with fail
            go_ret
            exact ⟨by simp, _, _, _, _, _, _, H2.out.less (fun k hk => by cases hk)⟩
          · have e4 : (o.act == 4) = false := by simp [a4]
            by_cases a5 : o.act = 5
            · have e5 : (o.act == 5) = true := by simp [a5]
              clear a0 a1 a2 a3 a4 a5
              go_enter Try.func14, Try.ntmps14
              go_wp2_with fail
              have HC := Lib.hid ((H1.out.then_ HP.out (Below.refl (w.alloc (.cells #[.int .i64 o.on, .int .i64 o.act, .int .i64 o.n] 42)).heap.size _).drew).clone HP.out)
              have w0 := IntWalk.i64_in (j : Int) (by omega)
              have w1 : IntKind.i64.wrap (1 - (k : Int)) = (j : Int) := by rw [hj]; exact w0
              have w2 : (0 : Int) ≤ (j : Int) := by omega
              have w3 : (j : Int) < 2 := by omega
              go_region_held3 (fun _ => True)
                (trivial)
                (first
                  | (go_at_call 12; refine HC.out.mono ?_; rintro e w2 ⟨b', rfl, h2⟩; have H2 := Lib.hid h2; have cj2 := (row_cells h2.box j).trans ((csOf_get HKJ.out a b x y).2.2.1); have fj2 := box_frozen h2.box j; clear h2))
              have h3 := H2.out.put HP.out j (.pointer (some ⟨b', 0, none⟩))
              rw [(csOf_set HKJ.out a b x y b' y).1] at h3
              generalize hw3 : World.setCell _ _ _ = w3 at h3 ⊢
              have H3 := Lib.hid h3
              clear h3 hw3
              have HC3 := Lib.hid ((H3.out.then_ HP.out (Below.refl w3.heap.size w3).drew).rclone HP.out)
              go_wp2_with fail
              go_region_held3 (fun _ => True)
                (trivial)
                (first
                  | (go_at_call 13; refine HC3.out.mono ?_; rintro e w4 ⟨y', rfl, h4⟩; have H4 := Lib.hid h4; have cj4 := (row_cells h4.box (2 + j)).trans ((csOf_get HKJ.out a b' x y).2.2.2); have fj4 := box_frozen h4.box (2 + j); clear h4))
              have h5 := H4.out.put HP.out (2 + j) (.pointer (some ⟨y', 0, none⟩))
              rw [(csOf_set HKJ.out a b' x y b' y').2] at h5
              generalize hw5 : World.setCell _ _ _ = w5 at h5 ⊢
              have H5 := Lib.hid h5
              have cj5 := (row_cells h5.box j).trans ((csOf_get HKJ.out a b' x y').2.2.1)
              clear h5 hw5
              go_wp2_with fail
              go_ret
              exact ⟨by simp, _, _, _, _, _, _, H5.out.less (fun k hk => by cases hk)⟩
            · have e5 : (o.act == 5) = false := by simp [a5]
              clear a0 a1 a2 a3 a4 a5
              go_enter Try.func14, Try.ntmps14
              go_wp2_with fail
              go_ret
              exact ⟨by simp, _, _, _, _, _, _, H1.out.less (fun k hk => by cases hk)⟩
end Go.Proofs.Yteoekfmjlmpmgaa
