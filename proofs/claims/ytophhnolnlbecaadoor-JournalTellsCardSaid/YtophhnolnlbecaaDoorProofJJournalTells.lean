/- JournalTells: for every row of bytes, every three numbers and every four bytes that the arguments may read as (nothing else is asked) the law returns true, and each argument reads as it did; the listed tables are as the program's text lays them. -/
import Derived.Test.YtophhnolnlbecaaDoorQ32
import Derived.Test.YtophhnolnlbecaaDoorJLaw3
import Derived.Test.YtophhnolnlbecaaDoorQ34
import Derived.Test.YtophhnolnlbecaaDoorQ33
import Derived.Deep.DeepHandedRow
namespace Go.Proofs.YtophhnolnlbecaaDoor
open Go.RowKit Go.ChangeShapes Go.WideShapes Go.ChangeAt
set_option maxRecDepth 100000

theorem journalTells_lifted (os : Os) (started : os.Started) (H : Type) (enc : TypeId × Value → H) :
    ReturnsInHanded {} Tryd.checked os 6 .any (fun w args => (Rows.journalTellsSpec.pre enc Tryd.prog Tryd.f6 [] false w args ∧ laidMetH Tryd.prog laidAll w) ∧ sizedMet enc Tryd.prog Tryd.f6 (OpenSpec.ofChange Rows.journalTellsSpec) false w args)
      (Rows.journalTellsSpec.post enc Tryd.prog Tryd.f6 false true false false) := by
  refine returnsInHanded_of_change_and (C := Tryd.checked) (X := fun w _ => laidMetH Tryd.prog laidAll w) (fun _ _ _ hh h => h.of_heap hh) own started (by kernel_rfl) Tryd.func6
    (ChangeSpec.witness_shaped (enc := enc) (C := Tryd.checked) (os := os) (X := fun w _ => laidMetH Tryd.prog laidAll w) false (World.laidAll Tryd.prog os laidAll) #[.int .i64 0, .slice none 0 0, .int .i64 0, .agg #[.int .u8 0, .int .u8 0, .int .u8 0, .int .u8 0], .int .i64 0] 8 (World.laidAll_os _ _ _)
      (World.shaped_of_ZipB (by kernel_rfl) (by kernel_rfl)) (by kernel_rfl) (by kernel_rfl) (by kernel_rfl)
      (by rw [MakeChecks.laidMetH_plain _ _ _ (by kernel_rfl)]; exact laidMet_laidAll _ (by kernel_rfl) (by kernel_rfl))) ?_
  intro W base args ds gs before hval0 hW _ hreach hL _
  have hval : ∀ (j : Nat) t v, Tryd.f6.params[j]? = some t → args[j]? = some v → Value.okWide Tryd.prog W .any base t v := hval0
  have hW' := hW
  obtain ⟨p, q, hA0, hV, rfl, _, _⟩ := hW
  have hA : DataW.TrodAll enc Tryd.prog W 0 (fun _ => true) true Tryd.f6.params.toList args.toList ds p := hA0
  rw [Tryd.params6] at hA hval
  obtain ⟨v0, v1, v2, v3, v4, d0, d1, d2, d3, d4, p0, p1, p2, p3, p4, rfl, rfl, rfl, h0, h1, h2, h3, h4⟩ := trodAll_five hA
  obtain ⟨rfl, rfl⟩ := trodVars_none hV
  have hre : reached (DataW.weightsEach Tryd.prog [3, 22, 3, 53, 3] [d0, d1, d2, d3, d4]) := hreach
  simp only [DataW.weightsEach, reached_append] at hre
  obtain ⟨r0, r1, r2, r3, r4, -⟩ := hre
  obtain ⟨n0, rfl, i0⟩ := open_int (hval 0 3 v0 rfl rfl) h0
  obtain ⟨a1, c1, l1, rfl, in1, b1, k1, z1⟩ := open_bytes (hval 1 22 v1 rfl rfl) h1 r1
  have y1 : a1 = none → c1 = 0 ∧ l1 = [] := fun h => ⟨z1 h, List.eq_nil_of_length_eq_zero (by have := z1 h; omega)⟩
  obtain ⟨n2, rfl, i2⟩ := open_int (hval 2 3 v2 rfl rfl) h2
  obtain ⟨p3_0, p3_1, p3_2, p3_3, rfl, q3_0, q3_1, q3_2, q3_3⟩ := open_arr4 (hval 3 53 v3 rfl rfl) h3
  obtain ⟨n4, rfl, i4⟩ := open_int (hval 4 3 v4 rfl rfl) h4
  have hL2 : laidMetH Tryd.prog laidAll W := hL
  rw [MakeChecks.laidMetH_plain _ _ _ (by kernel_rfl)] at hL2
  have hlt := hW'.lt
  refine (jtells_law (p15f_of hL2) n0 i0 a1 c1 _ l1 n2 p3_0 p3_1 p3_2 p3_3 n4 i4 in1 b1 rfl k1 (fun h => (y1 h).1) i2 q3_0 q3_1 q3_2 q3_3).mono fun e W' ⟨he, hbel⟩ => ?_
  subst he
  exact ⟨_, rfl, _, _, _, [], _, [], hW', trodAll_mk1 (shut_bool Tryd.underlying4 _), trodAll_mk5 (back_int h0 hbel (fun x hx => hlt x (by simp [hx]))) (back_bytes h1 hbel (fun x hx => hlt x (by simp [hx]))) (back_int h2 hbel (fun x hx => hlt x (by simp [hx]))) (back_arr4 h3 hbel (fun x hx => hlt x (by simp [hx]))) (back_int h4 hbel (fun x hx => hlt x (by simp [hx]))), rfl, hbel.frame _, fun h => by cases h⟩
theorem journalTells_said : Rows.JournalTellsSaid :=
  OpenClaim.holds_of_wide 6 Tryd.f6 rfl rfl rfl rfl rfl rfl rfl ⟨rfl, rfl, rfl, rfl, rfl⟩ rfl rfl rfl rfl rfl (by kernel_rfl) Tryd.func6 (by kernel_rfl)
    (of_decide_eq_true (by kernel_rfl)) (by unfold Func.isWrapper; first | (rw [if_pos (by decide +kernel)]; kernel_rfl) | (rw [if_neg (by decide +kernel)]; exact ⟨rfl, rfl⟩))
    (fun os started H enc _ => journalTells_lifted os started H enc)
theorem journalTells_holds : Rows.JournalTellsCardSaid :=
  Claim7.holds_tied_plain_at .later [] [.data] true (true, "bb9e25129aa1b20e0cbf2b5a329a3e699c3847331dc8eb8609d03a30db89fd68") true journalTells_said (fun _ h => by cases h) (by kernel_rfl) (fun _ h => by cases h) journalTells_row_tie rfl ⟨rfl, rfl⟩ (by kernel_rfl) rfl
    (fun f fn hf hfn => by
      obtain rfl : f = 6 := Option.some.inj ((show Tryd.prog.funcNamed "coffret/coffretlaw15.JournalTells" = some 6 by kernel_rfl).symm.trans hf) |>.symm
      obtain rfl : fn = Tryd.f6 := (Option.some.inj (Tryd.func6.symm.trans hfn)).symm
      exact ⟨by kernel_rfl, fun j t ht => by
        rw [Tryd.params6] at ht
        have hm : t ∈ [3, 22, 3, 53, 3] := by simpa using Array.mem_of_getElem? ht
        have hall : ([3, 22, 3, 53, 3].all fun u => !Tryd.prog.wantsStandIn u) = true := by kernel_rfl
        exact (show Tryd.prog.wantsStandIn t = false by simpa using List.all_eq_true.1 hall t hm)⟩)
    (by kernel_rfl)
#print axioms journalTells_holds
end Go.Proofs.YtophhnolnlbecaaDoor
