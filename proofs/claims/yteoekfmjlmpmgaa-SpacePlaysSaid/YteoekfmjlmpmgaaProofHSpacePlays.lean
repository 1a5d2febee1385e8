/- SpacePlays: for every number, every row of numbers and every row of steps that the arguments may read as (nothing else is asked) the law returns true, and each argument reads as it did. -/
import Derived.Test.YteoekfmjlmpmgaaYN
import Derived.Test.YteoekfmjlmpmgaaHProg
import Derived.Test.YteoekfmjlmpmgaaHPl4
import Derived.Deep.DeepHandedRow
namespace Go.Proofs.Yteoekfmjlmpmgaa
open Go.RowKit Go.ChangeShapes Go.WideShapes Go.ChangeAt
set_option maxRecDepth 100000

theorem spacePlays_reads (os : Os) {H : Type} (enc : TypeId × Value → H) : ∃ places, DataW.whole enc Try.prog ((World.laidAll Try.prog os ([] : List (String × DataW Unit))).forCall (fun _ _ => 0) ⟨#[], #[.int .i64 0, .slice none 0 0, .slice none 0 0], []⟩).memory Try.f3.params.toList Rows.spacePlaysSpec.vars false (#[.int .i64 0, .slice none 0 0, .slice none 0 0] : Array Value).toList 8 = some ([.lit (.int .i64 0), .nil, .nil], [], places) :=
  ⟨[], by kernel_rfl⟩
theorem spacePlays_lifted (os : Os) (started : os.Started) (H : Type) (enc : TypeId × Value → H) (F : Stop.Interp) :
    ReturnsInHanded {} Try.checked os 3 .any ((OpenSpec.ofChange Rows.spacePlaysSpec).preRow enc Try.prog Try.f3 Rows.spacePlaysRow.domain false Rows.spacePlaysRow.laid) (((OpenSpec.ofChange Rows.spacePlaysSpec).at F).post enc Try.prog Try.f3 false true false false) := by
  obtain ⟨places, hx⟩ := spacePlays_reads os enc
  refine returnsInHanded_of_row (C := Try.checked) (s := (OpenSpec.ofChange Rows.spacePlaysSpec)) own started (by kernel_rfl) Try.func3
    ⟨World.laidAll Try.prog os ([] : List (String × DataW Unit)), fun _ _ => 0, ⟨#[], #[.int .i64 0, .slice none 0 0, .slice none 0 0], []⟩, World.laidAll_os _ _ _, World.shaped_of_ZipB (by kernel_rfl) (by kernel_rfl), rfl, (Input.okWide_of_okWideB (by kernel_rfl)).2,
      OpenSpec.preRow_of_cond 8 hx (by kernel_rfl) (fun k hk => by cases hk) (by kernel_rfl)
        (by show laidMetH Try.prog ([] : List (String × DataW Unit)) _; rw [MakeChecks.laidMetH_plain _ _ _ (by kernel_rfl)]; exact laidMet_laidAll _ (by kernel_rfl) (by kernel_rfl)),
      by simp [Assume.holds]⟩ ?_
  intro W base args ds gs before hval0 hW _ hcond hreach hL hsh _
  have hval : ∀ (j : Nat) t v, Try.f3.params[j]? = some t → args[j]? = some v → Value.okWide Try.prog W .any base t v := hval0
  have hW' := hW
  obtain ⟨p, q, hA0, hV, rfl, _, _⟩ := hW
  have hA : DataW.TrodAll enc Try.prog W 0 (fun _ => true) true Try.f3.params.toList args.toList ds p := hA0
  rw [Try.params3] at hA hval
  obtain ⟨v0, v1, v2, d0, d1, d2, p0, p1, p2, rfl, rfl, rfl, h0, h1, h2⟩ := trodAll_three hA
  obtain ⟨rfl, rfl⟩ := trodVars_none hV
  have hre : reached (DataW.weightsEach Try.prog [3, 22, 23] [d0, d1, d2]) := hreach
  simp only [DataW.weightsEach, reached_append] at hre
  obtain ⟨r0, r1, r2, -⟩ := hre
  obtain ⟨n0, rfl, i0⟩ := open_int (hval 0 3 v0 rfl rfl) h0
  obtain ⟨a1, c1, l1, rfl, in1, all1, k1, z1⟩ := open_ints (hval 1 22 v1 rfl rfl) h1 r1
  have y1 : a1 = none → c1 = 0 ∧ l1 = [] := fun h => ⟨z1 h, List.eq_nil_of_length_eq_zero (by have := z1 h; omega)⟩
  obtain ⟨a2, c2, l2, rfl, in2, all2, u2⟩ := open_ops (hval 2 23 v2 rfl rfl) h2 r2
  have hlt := hW'.lt
  refine (plays_law (p13_of W) n0 i0 a1 _ c1 l1 in1 rfl k1 y1 all1 a2 _ c2 l2 in2 all2 rfl (by omega)).mono fun e W' ⟨he, hbel⟩ => ?_
  subst he
  exact ⟨_, rfl, _, _, _, [], _, [], hW', trodAll_mk1 (shut_bool Try.underlying4 _), trodAll_mk3 (back_int h0 hbel (fun x hx => hlt x (by simp [hx]))) (back_ints h1 hbel (fun x hx => hlt x (by simp [hx]))) (back_ops h2 hbel (fun x hx => hlt x (by simp [hx]))), rfl, hbel.frame _, fun h => by cases h⟩
theorem spacePlays_holds : Rows.SpacePlaysSaid :=
  OpenClaim.holds_of_cond 3 Try.f3 rfl rfl rfl rfl rfl rfl rfl ⟨rfl, rfl, rfl, rfl, rfl⟩ rfl rfl rfl rfl rfl (by kernel_rfl) Try.func3 (by kernel_rfl)
    (of_decide_eq_true (by kernel_rfl)) (by unfold Func.isWrapper; first | (rw [if_pos (by decide +kernel)]; kernel_rfl) | (rw [if_neg (by decide +kernel)]; exact ⟨rfl, rfl⟩))
    (fun os started H enc _ F => by rw [OpenClaim.pre_eq_preRow]; exact spacePlays_lifted os started H enc F)
#print axioms spacePlays_holds
end Go.Proofs.Yteoekfmjlmpmgaa
