/- JournalPower: for every two rows of rows of bytes, every two rows of bools, every two numbers and every bool that the arguments may read as (nothing else is asked) the law returns true, and each argument reads as it did; the listed tables are as the program's text lays them. -/
import Derived.Test.YtophhnolnlbecaaDoorQ32
import Derived.Test.YtophhnolnlbecaaDoorJLaw6
import Derived.Test.YtophhnolnlbecaaDoorQ34
import Derived.Test.YtophhnolnlbecaaDoorQ33
import Derived.Test.YtophhnolnlbecaaDoorUErr
import Derived.Deep.DeepHandedRow
namespace Go.Proofs.YtophhnolnlbecaaDoor
open Go.RowKit Go.ChangeShapes Go.WideShapes Go.ChangeAt
set_option maxRecDepth 100000

theorem journalPower_reads (os : Os) {H : Type} (enc : TypeId × Value → H) : ∃ places, DataW.whole enc Tryd.prog ((World.doorLaid Tryd.prog 400 os).forCall (fun _ _ => 0) ⟨#[], #[.int .i64 0, .slice none 0 0, .slice none 0 0, .slice none 0 0, .int .i64 0, .bool false, .slice none 0 0], []⟩).memory Tryd.f7.params.toList Rows.journalPowerSpec.vars false (#[.int .i64 0, .slice none 0 0, .slice none 0 0, .slice none 0 0, .int .i64 0, .bool false, .slice none 0 0] : Array Value).toList 8 = some ([.lit (.int .i64 0), .nil, .nil, .nil, .lit (.int .i64 0), .lit (.bool false), .nil], [], places) :=
  ⟨[], by kernel_rfl⟩
theorem journalPower_lifted (os : Os) (started : os.Started) (H : Type) (enc : TypeId × Value → H) (F : Stop.Interp) :
    ReturnsInHanded {} Tryd.checked os 7 .any ((OpenSpec.ofChange Rows.journalPowerSpec).preRow enc Tryd.prog Tryd.f7 Rows.journalPowerRow.domain false Rows.journalPowerRow.laid) (((OpenSpec.ofChange Rows.journalPowerSpec).at F).post enc Tryd.prog Tryd.f7 false true false false) := by
  obtain ⟨places, hx⟩ := journalPower_reads os enc
  refine returnsInHanded_of_row (C := Tryd.checked) (s := OpenSpec.ofChange Rows.journalPowerSpec) own started (by kernel_rfl) Tryd.func7
    ⟨World.doorLaid Tryd.prog 400 os, fun _ _ => 0, ⟨#[], #[.int .i64 0, .slice none 0 0, .slice none 0 0, .slice none 0 0, .int .i64 0, .bool false, .slice none 0 0], []⟩, rfl, World.shaped_of_RefB (by kernel_rfl) (by kernel_rfl), rfl, (Input.okWide_of_okWideB (by kernel_rfl)).2,
      OpenSpec.preRow_of_cond 8 hx (by kernel_rfl) (fun k hk => by cases hk) (by kernel_rfl)
        (door_met os _),
      by simp [Assume.holds]⟩ ?_
  intro W base args ds gs before hval0 hW _ hcond hreach hL hsh _
  have hval : ∀ (j : Nat) t v, Tryd.f7.params[j]? = some t → args[j]? = some v → Value.okWide Tryd.prog W .any base t v := hval0
  have hW' := hW
  obtain ⟨p, q, hA0, hV, rfl, _, _⟩ := hW
  have hA : DataW.TrodAll enc Tryd.prog W 0 (fun _ => true) true Tryd.f7.params.toList args.toList ds p := hA0
  rw [Tryd.params7] at hA hval
  obtain ⟨v0, v1, v2, v3, v4, v5, v6, d0, d1, d2, d3, d4, d5, d6, p0, p1, p2, p3, p4, p5, p6, rfl, rfl, rfl, h0, h1, h2, h3, h4, h5, h6⟩ := trodAll_seven hA
  obtain ⟨rfl, rfl⟩ := trodVars_none hV
  have hre : reached (DataW.weightsEach Tryd.prog [3, 30, 30, 56, 3, 4, 56] [d0, d1, d2, d3, d4, d5, d6]) := hreach
  simp only [DataW.weightsEach, reached_append] at hre
  obtain ⟨r0, r1, r2, r3, r4, r5, r6, -⟩ := hre
  obtain ⟨n0, rfl, i0⟩ := open_int (hval 0 3 v0 rfl rfl) h0
  obtain ⟨a1, c1, l1, rfl, in1, k1⟩ := open_rows (hval 1 30 v1 rfl rfl) h1 r1
  obtain ⟨a2, c2, l2, rfl, in2, k2⟩ := open_rows (hval 2 30 v2 rfl rfl) h2 r2
  obtain ⟨a3, c3, l3, rfl, in3, k3, z3⟩ := open_bools (hval 3 56 v3 rfl rfl) h3 r3
  obtain ⟨n4, rfl, i4⟩ := open_int (hval 4 3 v4 rfl rfl) h4
  obtain ⟨b5, rfl⟩ := open_bool (hval 5 4 v5 rfl rfl) h5
  obtain ⟨a6, c6, l6, rfl, in6, k6, z6⟩ := open_bools (hval 6 56 v6 rfl rfl) h6 r6
  have hL2 : laidMetH Tryd.prog laidE W := hL
  have hlt := hW'.lt
  refine (jpower_law (p15f_of (parts_of hL2).1) (p15j_of (parts_of hL2).1) (errT_of hL2) n0 i0 a1 _ c1 l1 in1 rfl ⟨k1.1, Nat.le_trans k1.2 (by decide)⟩ a2 _ c2 l2 in2 rfl ⟨k2.1, Nat.le_trans k2.2 (by decide)⟩ a3 _ c3 l3 in3 rfl ⟨k3.1, Nat.le_trans k3.2 (by decide)⟩ n4 i4 b5 a6 _ c6 l6 in6 rfl ⟨k6.1, Nat.le_trans k6.2 (by decide)⟩ ⟨(Nat.le_trans k1.1 k1.2), (Nat.le_trans k2.1 k2.2), (Nat.le_trans k6.1 k6.2)⟩).mono fun e W' ⟨he, hbel⟩ => ?_
  subst he
  exact ⟨_, rfl, _, _, _, [], _, [], hW', trodAll_mk1 (shut_bool Tryd.underlying4 _), trodAll_mk7 (back_int h0 hbel (fun x hx => hlt x (by simp [hx]))) (back_rows h1 hbel (fun x hx => hlt x (by simp [hx]))) (back_rows h2 hbel (fun x hx => hlt x (by simp [hx]))) (back_bools h3 hbel (fun x hx => hlt x (by simp [hx]))) (back_int h4 hbel (fun x hx => hlt x (by simp [hx]))) (back_bool h5 hbel (fun x hx => hlt x (by simp [hx]))) (back_bools h6 hbel (fun x hx => hlt x (by simp [hx]))), rfl, hbel.frame _, fun h => by cases h⟩
theorem journalPower_said : Rows.JournalPowerSaid :=
  OpenClaim.holds_of_cond 7 Tryd.f7 rfl rfl rfl rfl rfl rfl rfl ⟨rfl, rfl, rfl, rfl, rfl⟩ rfl rfl rfl rfl rfl (by kernel_rfl) Tryd.func7 (by kernel_rfl)
    (of_decide_eq_true (by kernel_rfl)) (by unfold Func.isWrapper; first | (rw [if_pos (by decide +kernel)]; kernel_rfl) | (rw [if_neg (by decide +kernel)]; exact ⟨rfl, rfl⟩))
    (fun os started H enc _ F => by rw [OpenClaim.pre_eq_preRow]; exact journalPower_lifted os started H enc F)
theorem journalPower_holds : Rows.JournalPowerCardSaid :=
  Claim7.holds_tied_plain_at .later [] [.handle, .data] true (true, "bb9e25129aa1b20e0cbf2b5a329a3e699c3847331dc8eb8609d03a30db89fd68") true journalPower_said (fun _ h => by cases h) (by kernel_rfl) (fun _ h => by cases h) journalPower_row_tie rfl ⟨rfl, rfl⟩ (by kernel_rfl) rfl
    (fun f fn hf hfn => by
      obtain rfl : f = 7 := Option.some.inj ((show Tryd.prog.funcNamed "coffret/coffretlaw15.JournalPower" = some 7 by kernel_rfl).symm.trans hf) |>.symm
      obtain rfl : fn = Tryd.f7 := (Option.some.inj (Tryd.func7.symm.trans hfn)).symm
      exact ⟨by kernel_rfl, fun j t ht => by
        rw [Tryd.params7] at ht
        have hm : t ∈ [3, 30, 30, 56, 3, 4, 56] := by simpa using Array.mem_of_getElem? ht
        have hall : ([3, 30, 30, 56, 3, 4, 56].all fun u => !Tryd.prog.wantsStandIn u) = true := by kernel_rfl
        exact (show Tryd.prog.wantsStandIn t = false by simpa using List.all_eq_true.1 hall t hm)⟩)
    (by kernel_rfl)
#print axioms journalPower_holds
end Go.Proofs.YtophhnolnlbecaaDoor
