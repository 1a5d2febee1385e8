/- JournalBack: for every row of rows of bytes and every two numbers that the arguments may read as (nothing else is asked) the law returns true, and each argument reads as it did; the listed tables are as the program's text lays them. -/
import Derived.Test.YtophhnolnlbecaaDoorQ32
import Derived.Test.YtophhnolnlbecaaDoorJLaw5
import Derived.Test.YtophhnolnlbecaaDoorQ34
import Derived.Test.YtophhnolnlbecaaDoorQ33
import Derived.Test.YtophhnolnlbecaaDoorUErr
import Derived.Deep.DeepHandedRow
namespace Go.Proofs.YtophhnolnlbecaaDoor
open Go.RowKit Go.ChangeShapes Go.WideShapes Go.ChangeAt
set_option maxRecDepth 100000

theorem journalBack_reads (os : Os) {H : Type} (enc : TypeId × Value → H) : ∃ places, DataW.whole enc Tryd.prog ((World.doorLaid Tryd.prog 400 os).forCall (fun _ _ => 0) ⟨#[], #[.int .i64 0, .slice none 0 0, .int .i64 0], []⟩).memory Tryd.f5.params.toList Rows.journalBackSpec.vars false (#[.int .i64 0, .slice none 0 0, .int .i64 0] : Array Value).toList 8 = some ([.lit (.int .i64 0), .nil, .lit (.int .i64 0)], [], places) :=
  ⟨[], by kernel_rfl⟩
theorem journalBack_lifted (os : Os) (started : os.Started) (H : Type) (enc : TypeId × Value → H) (F : Stop.Interp) :
    ReturnsInHanded {} Tryd.checked os 5 .any ((OpenSpec.ofChange Rows.journalBackSpec).preRow enc Tryd.prog Tryd.f5 Rows.journalBackRow.domain false Rows.journalBackRow.laid) (((OpenSpec.ofChange Rows.journalBackSpec).at F).post enc Tryd.prog Tryd.f5 false true false false) := by
  obtain ⟨places, hx⟩ := journalBack_reads os enc
  refine returnsInHanded_of_row (C := Tryd.checked) (s := OpenSpec.ofChange Rows.journalBackSpec) own started (by kernel_rfl) Tryd.func5
    ⟨World.doorLaid Tryd.prog 400 os, fun _ _ => 0, ⟨#[], #[.int .i64 0, .slice none 0 0, .int .i64 0], []⟩, rfl, World.shaped_of_RefB (by kernel_rfl) (by kernel_rfl), rfl, (Input.okWide_of_okWideB (by kernel_rfl)).2,
      OpenSpec.preRow_of_cond 8 hx (by kernel_rfl) (fun k hk => by cases hk) (by kernel_rfl)
        (door_met os _),
      by simp [Assume.holds]⟩ ?_
  intro W base args ds gs before hval0 hW _ hcond hreach hL hsh _
  have hval : ∀ (j : Nat) t v, Tryd.f5.params[j]? = some t → args[j]? = some v → Value.okWide Tryd.prog W .any base t v := hval0
  have hW' := hW
  obtain ⟨p, q, hA0, hV, rfl, _, _⟩ := hW
  have hA : DataW.TrodAll enc Tryd.prog W 0 (fun _ => true) true Tryd.f5.params.toList args.toList ds p := hA0
  rw [Tryd.params5] at hA hval
  obtain ⟨v0, v1, v2, d0, d1, d2, p0, p1, p2, rfl, rfl, rfl, h0, h1, h2⟩ := trodAll_three hA
  obtain ⟨rfl, rfl⟩ := trodVars_none hV
  have hre : reached (DataW.weightsEach Tryd.prog [3, 30, 3] [d0, d1, d2]) := hreach
  simp only [DataW.weightsEach, reached_append] at hre
  obtain ⟨r0, r1, r2, -⟩ := hre
  obtain ⟨n0, rfl, i0⟩ := open_int (hval 0 3 v0 rfl rfl) h0
  obtain ⟨a1, c1, l1, rfl, in1, k1⟩ := open_rows (hval 1 30 v1 rfl rfl) h1 r1
  obtain ⟨n2, rfl, i2⟩ := open_int (hval 2 3 v2 rfl rfl) h2
  have hL2 : laidMetH Tryd.prog laidE W := hL
  have hlt := hW'.lt
  refine (back_law (p15f_of (parts_of hL2).1) (p15j_of (parts_of hL2).1) (errT_of hL2) n0 i0 a1 _ c1 l1 in1 rfl ⟨k1.1, Nat.le_trans k1.2 (by decide)⟩ (Nat.le_trans k1.1 k1.2) n2 i2).mono fun e W' ⟨he, hbel⟩ => ?_
  subst he
  exact ⟨_, rfl, _, _, _, [], _, [], hW', trodAll_mk1 (shut_bool Tryd.underlying4 _), trodAll_mk3 (back_int h0 hbel (fun x hx => hlt x (by simp [hx]))) (back_rows h1 hbel (fun x hx => hlt x (by simp [hx]))) (back_int h2 hbel (fun x hx => hlt x (by simp [hx]))), rfl, hbel.frame _, fun h => by cases h⟩
theorem journalBack_said : Rows.JournalBackSaid :=
  OpenClaim.holds_of_cond 5 Tryd.f5 rfl rfl rfl rfl rfl rfl rfl ⟨rfl, rfl, rfl, rfl, rfl⟩ rfl rfl rfl rfl rfl (by kernel_rfl) Tryd.func5 (by kernel_rfl)
    (of_decide_eq_true (by kernel_rfl)) (by unfold Func.isWrapper; first | (rw [if_pos (by decide +kernel)]; kernel_rfl) | (rw [if_neg (by decide +kernel)]; exact ⟨rfl, rfl⟩))
    (fun os started H enc _ F => by rw [OpenClaim.pre_eq_preRow]; exact journalBack_lifted os started H enc F)
theorem journalBack_holds : Rows.JournalBackCardSaid :=
  Claim7.holds_tied_plain_at .later [] [.handle, .data] true (true, "bb9e25129aa1b20e0cbf2b5a329a3e699c3847331dc8eb8609d03a30db89fd68") true journalBack_said (fun _ h => by cases h) (by kernel_rfl) (fun _ h => by cases h) journalBack_row_tie rfl ⟨rfl, rfl⟩ (by kernel_rfl) rfl
    (fun f fn hf hfn => by
      obtain rfl : f = 5 := Option.some.inj ((show Tryd.prog.funcNamed "coffret/coffretlaw15.JournalBack" = some 5 by kernel_rfl).symm.trans hf) |>.symm
      obtain rfl : fn = Tryd.f5 := (Option.some.inj (Tryd.func5.symm.trans hfn)).symm
      exact ⟨by kernel_rfl, fun j t ht => by
        rw [Tryd.params5] at ht
        have hm : t ∈ [3, 30, 3] := by simpa using Array.mem_of_getElem? ht
        have hall : ([3, 30, 3].all fun u => !Tryd.prog.wantsStandIn u) = true := by kernel_rfl
        exact (show Tryd.prog.wantsStandIn t = false by simpa using List.all_eq_true.1 hall t hm)⟩)
    (by kernel_rfl)
#print axioms journalBack_holds
end Go.Proofs.YtophhnolnlbecaaDoor
