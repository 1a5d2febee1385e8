/- SumParts: for every three rows of bytes that the arguments may read as, together of bulk at most 1048576 (the statement's second form: all three in one row may be longer than any memory), the law returns true, and each argument reads as it did; the listed tables are as the program's text lays them. -/
import Derived.Test.YtocpbkmflihcnaaDoorSProg
import Derived.Test.YtocpbkmflihcnaaDoorSLaw3
import Derived.Test.YtocpbkmflihcnaaDoorYU
import Derived.Deep.DeepHandedRow
namespace Go.Proofs.YtocpbkmflihcnaaDoor
open Go.RowKit Go.ChangeShapes Go.WideShapes Go.ChangeAt
set_option maxRecDepth 100000

theorem sumParts_reads (os : Os) {H : Type} (enc : TypeId × Value → H) : ∃ places, DataW.whole enc Tryd.prog ((World.laidAll Tryd.prog os laidAll).forCall (fun _ _ => 0) ⟨#[], #[.slice none 0 0, .slice none 0 0, .slice none 0 0], []⟩).memory Tryd.f6.params.toList Rows.sumPartsSpec.vars false (#[.slice none 0 0, .slice none 0 0, .slice none 0 0] : Array Value).toList 8 = some ([.nil, .nil, .nil], [], places) :=
  ⟨[], by kernel_rfl⟩
theorem sumParts_lifted (os : Os) (started : os.Started) (H : Type) (enc : TypeId × Value → H) (F : Stop.Interp) :
    ReturnsInHanded {} Tryd.checked os 6 .any ((Rows.OpenSpec.upto Rows.sumPartsSpec).preRow enc Tryd.prog Tryd.f6 Rows.sumPartsUptoRow.domain false Rows.sumPartsUptoRow.laid) (((Rows.OpenSpec.upto Rows.sumPartsSpec).at F).post enc Tryd.prog Tryd.f6 false true false false) := by
  obtain ⟨places, hx⟩ := sumParts_reads os enc
  refine returnsInHanded_of_row (C := Tryd.checked) (s := Rows.OpenSpec.upto Rows.sumPartsSpec) own started (by kernel_rfl) Tryd.func6
    ⟨World.laidAll Tryd.prog os laidAll, fun _ _ => 0, ⟨#[], #[.slice none 0 0, .slice none 0 0, .slice none 0 0], []⟩, World.laidAll_os _ _ _, World.shaped_of_ZipB (by kernel_rfl) (by kernel_rfl), rfl, (Input.okWide_of_okWideB (by kernel_rfl)).2,
      OpenSpec.preRow_of_cond 8 hx (by kernel_rfl) (fun k hk => by cases hk; kernel_rfl) (by kernel_rfl)
        (by show laidMetH Tryd.prog laidAll _; rw [MakeChecks.laidMetH_plain _ _ _ (by kernel_rfl)]; exact laidMet_laidAll _ (by kernel_rfl) (by kernel_rfl)),
      by simp [Assume.holds]⟩ ?_
  intro W base args ds gs before hval0 hW _ hcond hreach hL hsh _
  have hval : ∀ (j : Nat) t v, Tryd.f6.params[j]? = some t → args[j]? = some v → Value.okWide Tryd.prog W .any base t v := hval0
  have hW' := hW
  obtain ⟨p, q, hA0, hV, rfl, _, _⟩ := hW
  have hA : DataW.TrodAll enc Tryd.prog W 0 (fun _ => true) true Tryd.f6.params.toList args.toList ds p := hA0
  rw [Tryd.params6] at hA hval
  obtain ⟨v0, v1, v2, d0, d1, d2, p0, p1, p2, rfl, rfl, rfl, h0, h1, h2⟩ := trodAll_three hA
  obtain ⟨rfl, rfl⟩ := trodVars_none hV
  have hre : reached (DataW.weightsEach Tryd.prog [22, 22, 22] [d0, d1, d2]) := hreach
  simp only [DataW.weightsEach, reached_append] at hre
  obtain ⟨r0, r1, r2, -⟩ := hre
  obtain ⟨a0, c0, l0, rfl, in0, b0, k0, z0⟩ := open_bytes (hval 0 22 v0 rfl rfl) h0 r0
  have y0 : a0 = none → c0 = 0 ∧ l0 = [] := fun h => ⟨z0 h, List.eq_nil_of_length_eq_zero (by have := z0 h; omega)⟩
  obtain ⟨a1, c1, l1, rfl, in1, b1, k1, z1⟩ := open_bytes (hval 1 22 v1 rfl rfl) h1 r1
  have y1 : a1 = none → c1 = 0 ∧ l1 = [] := fun h => ⟨z1 h, List.eq_nil_of_length_eq_zero (by have := z1 h; omega)⟩
  obtain ⟨a2, c2, l2, rfl, in2, b2, k2, z2⟩ := open_bytes (hval 2 22 v2 rfl rfl) h2 r2
  have y2 : a2 = none → c2 = 0 ∧ l2 = [] := fun h => ⟨z2 h, List.eq_nil_of_length_eq_zero (by have := z2 h; omega)⟩
  have u0 : l0.length ≤ Rows.uptoBulk d0 := bytes_bulk h0 (fun h => by rw [(y0 h).2]; rfl)
  have u1 : l1.length ≤ Rows.uptoBulk d1 := bytes_bulk h1 (fun h => by rw [(y1 h).2]; rfl)
  have u2 : l2.length ≤ Rows.uptoBulk d2 := bytes_bulk h2 (fun h => by rw [(y2 h).2]; rfl)
  have hU := of_decide_eq_true (hcond _ rfl)
  simp only [List.append_nil, Rows.uptoBulkAll] at hU
  have hL2 : laidMetH Tryd.prog laidAll W := hL
  rw [MakeChecks.laidMetH_plain _ _ _ (by kernel_rfl)] at hL2
  have hlt := hW'.lt
  refine (parts_law (p11_of hL2) a0 c0 _ l0 a1 c1 _ l1 a2 c2 _ l2 in0 in1 in2 b0 b1 b2 rfl rfl rfl y0 y1 y2 (by omega)).mono fun e W' ⟨he, hbel⟩ => ?_
  subst he
  exact ⟨_, rfl, _, _, _, [], _, [], hW', trodAll_mk1 (shut_bool Tryd.underlying4 _), trodAll_mk3 (back_bytes h0 hbel (fun x hx => hlt x (by simp [hx]))) (back_bytes h1 hbel (fun x hx => hlt x (by simp [hx]))) (back_bytes h2 hbel (fun x hx => hlt x (by simp [hx]))), rfl, hbel.frame _, fun h => by cases h⟩
theorem sumParts_said : Rows.SumPartsUptoSaid :=
  OpenClaim.holds_of_cond 6 Tryd.f6 rfl rfl rfl rfl rfl rfl rfl ⟨rfl, rfl, rfl, rfl, rfl⟩ rfl rfl rfl rfl rfl (by kernel_rfl) Tryd.func6 (by kernel_rfl)
    (of_decide_eq_true (by kernel_rfl)) (by unfold Func.isWrapper; first | (rw [if_pos (by decide +kernel)]; kernel_rfl) | (rw [if_neg (by decide +kernel)]; exact ⟨rfl, rfl⟩))
    (fun os started H enc _ F => by rw [OpenClaim.pre_eq_preRow]; exact sumParts_lifted os started H enc F)
theorem sumParts_holds : Rows.SumPartsUptoCardSaid :=
  Claim7.holds_tied_plain_at .later [] [.data, .data] true (true, "1c5a2ea349c120e5414049aa88a08a1f3acb14d64315dd82de292cb58f13fea3") false sumParts_said (fun _ h => by cases h) (by kernel_rfl) (fun _ h => by cases h) sumPartsUpto_row_tie rfl ⟨rfl, rfl⟩ (by kernel_rfl) rfl
    (fun f fn hf hfn => by
      obtain rfl : f = 6 := Option.some.inj ((show Tryd.prog.funcNamed "coffret/coffretlaw11.SumParts" = some 6 by kernel_rfl).symm.trans hf) |>.symm
      obtain rfl : fn = Tryd.f6 := (Option.some.inj (Tryd.func6.symm.trans hfn)).symm
      exact ⟨by kernel_rfl, fun j t ht => by
        rw [Tryd.params6] at ht
        have hm : t ∈ [22, 22, 22] := by simpa using Array.mem_of_getElem? ht
        have hall : ([22, 22, 22].all fun u => !Tryd.prog.wantsStandIn u) = true := by kernel_rfl
        exact (show Tryd.prog.wantsStandIn t = false by simpa using List.all_eq_true.1 hall t hm)⟩)
    (by kernel_rfl)
#print axioms sumParts_holds
end Go.Proofs.YtocpbkmflihcnaaDoor
