/- SumAffine: for every three rows of bytes that the arguments may read as (nothing else is asked) the law returns true, and each argument reads as it did; the listed tables are as the program's text lays them. -/
import Derived.Test.YtocpbkmflihcnaaDoorSProg
import Derived.Test.YtocpbkmflihcnaaDoorSLaw4
import Derived.Test.YtocpbkmflihcnaaDoorYU
import Derived.Deep.DeepHandedRow
namespace Go.Proofs.YtocpbkmflihcnaaDoor
open Go.RowKit Go.ChangeShapes Go.WideShapes Go.ChangeAt
set_option maxRecDepth 100000

theorem sumAffine_lifted (os : Os) (started : os.Started) (H : Type) (enc : TypeId × Value → H) :
    ReturnsInHanded {} Tryd.checked os 9 .any (fun w args => (Rows.sumAffineSpec.pre enc Tryd.prog Tryd.f9 [] false w args ∧ laidMetH Tryd.prog laidAll w) ∧ sizedMet enc Tryd.prog Tryd.f9 (OpenSpec.ofChange Rows.sumAffineSpec) false w args)
      (Rows.sumAffineSpec.post enc Tryd.prog Tryd.f9 false true false false) := by
  refine returnsInHanded_of_change_and (C := Tryd.checked) (X := fun w _ => laidMetH Tryd.prog laidAll w) (fun _ _ _ hh h => h.of_heap hh) own started (by kernel_rfl) Tryd.func9
    (ChangeSpec.witness_shaped (enc := enc) (C := Tryd.checked) (os := os) (X := fun w _ => laidMetH Tryd.prog laidAll w) false (World.laidAll Tryd.prog os laidAll) #[.slice none 0 0, .slice none 0 0, .slice none 0 0] 8 (World.laidAll_os _ _ _)
      (World.shaped_of_ZipB (by kernel_rfl) (by kernel_rfl)) (by kernel_rfl) (by kernel_rfl) (by kernel_rfl)
      (by rw [MakeChecks.laidMetH_plain _ _ _ (by kernel_rfl)]; exact laidMet_laidAll _ (by kernel_rfl) (by kernel_rfl))) ?_
  intro W base args ds gs before hval0 hW _ hreach hL _
  have hval : ∀ (j : Nat) t v, Tryd.f9.params[j]? = some t → args[j]? = some v → Value.okWide Tryd.prog W .any base t v := hval0
  have hW' := hW
  obtain ⟨p, q, hA0, hV, rfl, _, _⟩ := hW
  have hA : DataW.TrodAll enc Tryd.prog W 0 (fun _ => true) true Tryd.f9.params.toList args.toList ds p := hA0
  rw [Tryd.params9] at hA hval
  obtain ⟨v0, v1, v2, d0, d1, d2, p0, p1, p2, rfl, rfl, rfl, h0, h1, h2⟩ := trodAll_three hA
  obtain ⟨rfl, rfl⟩ := trodVars_none hV
  have hre : reached (DataW.weightsEach Tryd.prog [22, 22, 22] [d0, d1, d2]) := hreach
  simp only [DataW.weightsEach, reached_append] at hre
  obtain ⟨r0, r1, r2, -⟩ := hre
  obtain ⟨a0, c0, l0, rfl, in0, b0, k0, z0⟩ := open_bytes (hval 0 22 v0 rfl rfl) h0 r0
  have y0 : a0 = none → c0 = 0 ∧ l0 = [] := fun h => ⟨z0 h, List.eq_nil_of_length_eq_zero (by have := z0 h; omega)⟩
  obtain ⟨a1, c1, l1, rfl, in1, b1, k1, z1⟩ := open_bytes (hval 1 22 v1 rfl rfl) h1 r1
  have y1 : a1 = none → c1 = 0 ∧ l1 = [] := fun h => ⟨z1 h, List.eq_nil_of_length_eq_zero (by have := z1 h; omega)⟩
  obtain ⟨a2, c2, l2, rfl, in2, b2, k2, z2⟩ := open_bytes (hval 2 22 v2 rfl rfl) h2 r2
  have y2 : a2 = none → c2 = 0 ∧ l2 = [] := fun h => ⟨z2 h, List.eq_nil_of_length_eq_zero (by have := z2 h; omega)⟩
  have hL2 : laidMetH Tryd.prog laidAll W := hL
  rw [MakeChecks.laidMetH_plain _ _ _ (by kernel_rfl)] at hL2
  have hlt := hW'.lt
  refine (affine_law (p11_of hL2) a0 c0 _ l0 a1 c1 _ l1 a2 c2 _ l2 in0 in1 in2 b0 b1 b2 rfl rfl rfl k0 k1 k2).mono fun e W' ⟨he, hbel⟩ => ?_
  subst he
  exact ⟨_, rfl, _, _, _, [], _, [], hW', trodAll_mk1 (shut_bool Tryd.underlying4 _), trodAll_mk3 (back_bytes h0 hbel (fun x hx => hlt x (by simp [hx]))) (back_bytes h1 hbel (fun x hx => hlt x (by simp [hx]))) (back_bytes h2 hbel (fun x hx => hlt x (by simp [hx]))), rfl, hbel.frame _, fun h => by cases h⟩
theorem sumAffine_said : Rows.SumAffineSaid :=
  OpenClaim.holds_of_wide 9 Tryd.f9 rfl rfl rfl rfl rfl rfl rfl ⟨rfl, rfl, rfl, rfl, rfl⟩ rfl rfl rfl rfl rfl (by kernel_rfl) Tryd.func9 (by kernel_rfl)
    (of_decide_eq_true (by kernel_rfl)) (by unfold Func.isWrapper; first | (rw [if_pos (by decide +kernel)]; kernel_rfl) | (rw [if_neg (by decide +kernel)]; exact ⟨rfl, rfl⟩))
    (fun os started H enc _ => sumAffine_lifted os started H enc)
theorem sumAffine_holds : Rows.SumAffineCardSaid :=
  Claim7.holds_tied_plain_at .later [] [.data, .data] true (true, "1c5a2ea349c120e5414049aa88a08a1f3acb14d64315dd82de292cb58f13fea3") false sumAffine_said (fun _ h => by cases h) (by kernel_rfl) (fun _ h => by cases h) sumAffine_row_tie rfl ⟨rfl, rfl⟩ (by kernel_rfl) rfl
    (fun f fn hf hfn => by
      obtain rfl : f = 9 := Option.some.inj ((show Tryd.prog.funcNamed "coffret/coffretlaw11.SumAffine" = some 9 by kernel_rfl).symm.trans hf) |>.symm
      obtain rfl : fn = Tryd.f9 := (Option.some.inj (Tryd.func9.symm.trans hfn)).symm
      exact ⟨by kernel_rfl, fun j t ht => by
        rw [Tryd.params9] at ht
        have hm : t ∈ [22, 22, 22] := by simpa using Array.mem_of_getElem? ht
        have hall : ([22, 22, 22].all fun u => !Tryd.prog.wantsStandIn u) = true := by kernel_rfl
        exact (show Tryd.prog.wantsStandIn t = false by simpa using List.all_eq_true.1 hall t hm)⟩)
    (by kernel_rfl)
#print axioms sumAffine_holds
end Go.Proofs.YtocpbkmflihcnaaDoor
