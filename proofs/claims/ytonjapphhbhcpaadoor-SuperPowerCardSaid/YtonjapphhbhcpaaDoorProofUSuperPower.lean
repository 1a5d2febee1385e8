/- SuperPower: for every superblock, every three numbers, every bool and every row of bools that the arguments may read as (nothing else is asked) the law returns true, and each argument reads as it did; the listed tables are as the program's text lays them. -/
import Derived.Test.YtonjapphhbhcpaaDoorUProg
import Derived.Test.YtonjapphhbhcpaaDoorULaw4
import Derived.Test.YtonjapphhbhcpaaDoorJ22
import Derived.Test.YtonjapphhbhcpaaDoorJ19
import Derived.Deep.DeepHandedRow
namespace Go.Proofs.YtonjapphhbhcpaaDoor
open Go.RowKit Go.ChangeShapes Go.WideShapes Go.ChangeAt
set_option maxRecDepth 100000

theorem superPower_lifted (os : Os) (started : os.Started) (H : Type) (enc : TypeId × Value → H) :
    ReturnsInHanded {} Tryd.checked os 7 .any (fun w args => (Rows.superPowerSpec.pre enc Tryd.prog Tryd.f7 [] false w args ∧ laidMetH Tryd.prog laidAll w) ∧ sizedMet enc Tryd.prog Tryd.f7 (OpenSpec.ofChange Rows.superPowerSpec) false w args)
      (Rows.superPowerSpec.post enc Tryd.prog Tryd.f7 false true false false) := by
  refine returnsInHanded_of_change_and (C := Tryd.checked) (X := fun w _ => laidMetH Tryd.prog laidAll w) (fun _ _ _ hh h => h.of_heap hh) own started (by kernel_rfl) Tryd.func7
    (ChangeSpec.witness_shaped (enc := enc) (C := Tryd.checked) (os := os) (X := fun w _ => laidMetH Tryd.prog laidAll w) false (World.laidAll Tryd.prog os laidAll) #[.agg #[.int .i64 0, .int .i64 0, .int .i64 0, .int .i64 0], .int .i64 0, .int .i64 0, .int .i64 0, .bool false, .slice none 0 0] 8 (World.laidAll_os _ _ _)
      (World.shaped_of_ZipB (by kernel_rfl) (by kernel_rfl)) (by kernel_rfl) (by kernel_rfl) (by kernel_rfl)
      (by rw [MakeChecks.laidMetH_plain _ _ _ (by kernel_rfl)]; exact laidMet_laidAll _ (by kernel_rfl) (by kernel_rfl))) ?_
  intro W base args ds gs before hval0 hW _ hreach hL _
  have hval : ∀ (j : Nat) t v, Tryd.f7.params[j]? = some t → args[j]? = some v → Value.okWide Tryd.prog W .any base t v := hval0
  have hW' := hW
  obtain ⟨p, q, hA0, hV, rfl, _, _⟩ := hW
  have hA : DataW.TrodAll enc Tryd.prog W 0 (fun _ => true) true Tryd.f7.params.toList args.toList ds p := hA0
  rw [Tryd.params7] at hA hval
  obtain ⟨v0, v1, v2, v3, v4, v5, d0, d1, d2, d3, d4, d5, p0, p1, p2, p3, p4, p5, rfl, rfl, rfl, h0, h1, h2, h3, h4, h5⟩ := trodAll_six hA
  obtain ⟨rfl, rfl⟩ := trodVars_none hV
  have hre : reached (DataW.weightsEach Tryd.prog [23, 3, 3, 3, 4, 43] [d0, d1, d2, d3, d4, d5]) := hreach
  simp only [DataW.weightsEach, reached_append] at hre
  obtain ⟨r0, r1, r2, r3, r4, r5, -⟩ := hre
  obtain ⟨s0, rfl, i0⟩ := open_sup (hval 0 23 v0 rfl rfl) h0
  obtain ⟨n1, rfl, i1⟩ := open_int (hval 1 3 v1 rfl rfl) h1
  obtain ⟨n2, rfl, i2⟩ := open_int (hval 2 3 v2 rfl rfl) h2
  obtain ⟨n3, rfl, i3⟩ := open_int (hval 3 3 v3 rfl rfl) h3
  obtain ⟨b4, rfl⟩ := open_bool (hval 4 4 v4 rfl rfl) h4
  obtain ⟨a5, c5, l5, rfl, in5, k5, z5⟩ := open_bools (hval 5 43 v5 rfl rfl) h5 r5
  have hL2 : laidMetH Tryd.prog laidAll W := hL
  rw [MakeChecks.laidMetH_plain _ _ _ (by kernel_rfl)] at hL2
  have hlt := hW'.lt
  refine (power_law (p14_of hL2) (p14d_of hL2) s0 i0 n1 n2 n3 i1 i2 i3 b4 a5 _ c5 l5 in5 rfl k5).mono fun e W' ⟨he, hbel⟩ => ?_
  subst he
  exact ⟨_, rfl, _, _, _, [], _, [], hW', trodAll_mk1 (shut_bool Tryd.underlying4 _), trodAll_mk6 (back_sup h0 hbel (fun x hx => hlt x (by simp [hx]))) (back_int h1 hbel (fun x hx => hlt x (by simp [hx]))) (back_int h2 hbel (fun x hx => hlt x (by simp [hx]))) (back_int h3 hbel (fun x hx => hlt x (by simp [hx]))) (back_bool h4 hbel (fun x hx => hlt x (by simp [hx]))) (back_bools h5 hbel (fun x hx => hlt x (by simp [hx]))), rfl, hbel.frame _, fun h => by cases h⟩
theorem superPower_said : Rows.SuperPowerSaid :=
  OpenClaim.holds_of_wide 7 Tryd.f7 rfl rfl rfl rfl rfl rfl rfl ⟨rfl, rfl, rfl, rfl, rfl⟩ rfl rfl rfl rfl rfl (by kernel_rfl) Tryd.func7 (by kernel_rfl)
    (of_decide_eq_true (by kernel_rfl)) (by unfold Func.isWrapper; first | (rw [if_pos (by decide +kernel)]; kernel_rfl) | (rw [if_neg (by decide +kernel)]; exact ⟨rfl, rfl⟩))
    (fun os started H enc _ => superPower_lifted os started H enc)
theorem superPower_holds : Rows.SuperPowerCardSaid :=
  Claim7.holds_tied_plain_at .later [] [.data] true (true, "67606ac29c67262d106a1e9743067a557e65b1eed5b88e10a3e06172eac00597") true superPower_said (fun _ h => by cases h) (by kernel_rfl) (fun _ h => by cases h) superPower_row_tie rfl ⟨rfl, rfl⟩ (by kernel_rfl) rfl
    (fun f fn hf hfn => by
      obtain rfl : f = 7 := Option.some.inj ((show Tryd.prog.funcNamed "coffret/coffretlaw14.SuperPower" = some 7 by kernel_rfl).symm.trans hf) |>.symm
      obtain rfl : fn = Tryd.f7 := (Option.some.inj (Tryd.func7.symm.trans hfn)).symm
      exact ⟨by kernel_rfl, fun j t ht => by
        rw [Tryd.params7] at ht
        have hm : t ∈ [23, 3, 3, 3, 4, 43] := by simpa using Array.mem_of_getElem? ht
        have hall : ([23, 3, 3, 3, 4, 43].all fun u => !Tryd.prog.wantsStandIn u) = true := by kernel_rfl
        exact (show Tryd.prog.wantsStandIn t = false by simpa using List.all_eq_true.1 hall t hm)⟩)
    (by kernel_rfl)
#print axioms superPower_holds
end Go.Proofs.YtonjapphhbhcpaaDoor
