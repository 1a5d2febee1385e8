/- SumBack: for every two rows of bytes and every two numbers that the arguments may read as, together of bulk at most 1048576 (the statement's second form: both rows in one may be longer than any memory), the law returns true, and each argument reads as it did; the listed tables are as the program's text lays them. -/
import Derived.Test.YtocpbkmflihcnaaDoorSProg
import Derived.Test.YtocpbkmflihcnaaDoorSLaw6
import Derived.Test.YtocpbkmflihcnaaDoorYU
import Derived.Deep.DeepHandedRow
namespace Go.Proofs.YtocpbkmflihcnaaDoor
open Go.RowKit Go.ChangeShapes Go.WideShapes Go.ChangeAt
set_option maxRecDepth 100000

theorem sumBack_reads (os : Os) {H : Type} (enc : TypeId × Value → H) : ∃ places, DataW.whole enc Tryd.prog ((World.laidAll Tryd.prog os laidAll).forCall (fun _ _ => 0) ⟨#[], #[.slice none 0 0, .int .i64 0, .int .i64 0, .slice none 0 0], []⟩).memory Tryd.f8.params.toList Rows.sumBackSpec.vars false (#[.slice none 0 0, .int .i64 0, .int .i64 0, .slice none 0 0] : Array Value).toList 8 = some ([.nil, .lit (.int .i64 0), .lit (.int .i64 0), .nil], [], places) :=
  ⟨[], by kernel_rfl⟩
theorem sumBack_lifted (os : Os) (started : os.Started) (H : Type) (enc : TypeId × Value → H) (F : Stop.Interp) :
    ReturnsInHanded {} Tryd.checked os 8 .any ((Rows.OpenSpec.upto Rows.sumBackSpec).preRow enc Tryd.prog Tryd.f8 Rows.sumBackUptoRow.domain false Rows.sumBackUptoRow.laid) (((Rows.OpenSpec.upto Rows.sumBackSpec).at F).post enc Tryd.prog Tryd.f8 false true false false) := by
  obtain ⟨places, hx⟩ := sumBack_reads os enc
  refine returnsInHanded_of_row (C := Tryd.checked) (s := Rows.OpenSpec.upto Rows.sumBackSpec) own started (by kernel_rfl) Tryd.func8
    ⟨World.laidAll Tryd.prog os laidAll, fun _ _ => 0, ⟨#[], #[.slice none 0 0, .int .i64 0, .int .i64 0, .slice none 0 0], []⟩, World.laidAll_os _ _ _, World.shaped_of_ZipB (by kernel_rfl) (by kernel_rfl), rfl, (Input.okWide_of_okWideB (by kernel_rfl)).2,
      OpenSpec.preRow_of_cond 8 hx (by kernel_rfl) (fun k hk => by cases hk; kernel_rfl) (by kernel_rfl)
        (by show laidMetH Tryd.prog laidAll _; rw [MakeChecks.laidMetH_plain _ _ _ (by kernel_rfl)]; exact laidMet_laidAll _ (by kernel_rfl) (by kernel_rfl)),
      by simp [Assume.holds]⟩ ?_
  intro W base args ds gs before hval0 hW _ hcond hreach hL hsh _
  have hval : ∀ (j : Nat) t v, Tryd.f8.params[j]? = some t → args[j]? = some v → Value.okWide Tryd.prog W .any base t v := hval0
  have hW' := hW
  obtain ⟨p, q, hA0, hV, rfl, _, _⟩ := hW
  have hA : DataW.TrodAll enc Tryd.prog W 0 (fun _ => true) true Tryd.f8.params.toList args.toList ds p := hA0
  rw [Tryd.params8] at hA hval
  obtain ⟨v0, v1, v2, v3, d0, d1, d2, d3, p0, p1, p2, p3, rfl, rfl, rfl, h0, h1, h2, h3⟩ := trodAll_four hA
  obtain ⟨rfl, rfl⟩ := trodVars_none hV
  have hre : reached (DataW.weightsEach Tryd.prog [22, 3, 3, 22] [d0, d1, d2, d3]) := hreach
  simp only [DataW.weightsEach, reached_append] at hre
  obtain ⟨r0, r1, r2, r3, -⟩ := hre
  obtain ⟨a0, c0, l0, rfl, in0, b0, k0, z0⟩ := open_bytes (hval 0 22 v0 rfl rfl) h0 r0
  have y0 : a0 = none → c0 = 0 ∧ l0 = [] := fun h => ⟨z0 h, List.eq_nil_of_length_eq_zero (by have := z0 h; omega)⟩
  obtain ⟨n1, rfl, i1⟩ := open_int (hval 1 3 v1 rfl rfl) h1
  obtain ⟨n2, rfl, i2⟩ := open_int (hval 2 3 v2 rfl rfl) h2
  obtain ⟨a3, c3, l3, rfl, in3, b3, k3, z3⟩ := open_bytes (hval 3 22 v3 rfl rfl) h3 r3
  have y3 : a3 = none → c3 = 0 ∧ l3 = [] := fun h => ⟨z3 h, List.eq_nil_of_length_eq_zero (by have := z3 h; omega)⟩
  have u0 : l0.length ≤ Rows.uptoBulk d0 := bytes_bulk h0 (fun h => by rw [(y0 h).2]; rfl)
  have u3 : l3.length ≤ Rows.uptoBulk d3 := bytes_bulk h3 (fun h => by rw [(y3 h).2]; rfl)
  have hU := of_decide_eq_true (hcond _ rfl)
  simp only [List.append_nil, Rows.uptoBulkAll] at hU
  have hL2 : laidMetH Tryd.prog laidAll W := hL
  rw [MakeChecks.laidMetH_plain _ _ _ (by kernel_rfl)] at hL2
  have hlt := hW'.lt
  refine (back_law (p11_of hL2) a0 c0 _ l0 n1 n2 a3 c3 _ l3 in0 in3 b0 b3 rfl rfl y0 y3 k3 (by omega) i1 i2).mono fun e W' ⟨he, hbel⟩ => ?_
  subst he
  exact ⟨_, rfl, _, _, _, [], _, [], hW', trodAll_mk1 (shut_bool Tryd.underlying4 _), trodAll_mk4 (back_bytes h0 hbel (fun x hx => hlt x (by simp [hx]))) (back_int h1 hbel (fun x hx => hlt x (by simp [hx]))) (back_int h2 hbel (fun x hx => hlt x (by simp [hx]))) (back_bytes h3 hbel (fun x hx => hlt x (by simp [hx]))), rfl, hbel.frame _, fun h => by cases h⟩
theorem sumBack_said : Rows.SumBackUptoSaid :=
  OpenClaim.holds_of_cond 8 Tryd.f8 rfl rfl rfl rfl rfl rfl rfl ⟨rfl, rfl, rfl, rfl, rfl⟩ rfl rfl rfl rfl rfl (by kernel_rfl) Tryd.func8 (by kernel_rfl)
    (of_decide_eq_true (by kernel_rfl)) (by unfold Func.isWrapper; first | (rw [if_pos (by decide +kernel)]; kernel_rfl) | (rw [if_neg (by decide +kernel)]; exact ⟨rfl, rfl⟩))
    (fun os started H enc _ F => by rw [OpenClaim.pre_eq_preRow]; exact sumBack_lifted os started H enc F)
theorem sumBack_holds : Rows.SumBackUptoCardSaid :=
  Claim7.holds_tied_plain_at .later [] [.data, .data] true (true, "1c5a2ea349c120e5414049aa88a08a1f3acb14d64315dd82de292cb58f13fea3") false sumBack_said (fun _ h => by cases h) (by kernel_rfl) (fun _ h => by cases h) sumBackUpto_row_tie rfl ⟨rfl, rfl⟩ (by kernel_rfl) rfl
    (fun f fn hf hfn => by
      obtain rfl : f = 8 := Option.some.inj ((show Tryd.prog.funcNamed "coffret/coffretlaw11.SumBack" = some 8 by kernel_rfl).symm.trans hf) |>.symm
      obtain rfl : fn = Tryd.f8 := (Option.some.inj (Tryd.func8.symm.trans hfn)).symm
      exact ⟨by kernel_rfl, fun j t ht => by
        rw [Tryd.params8] at ht
        have hm : t ∈ [22, 3, 3, 22] := by simpa using Array.mem_of_getElem? ht
        have hall : ([22, 3, 3, 22].all fun u => !Tryd.prog.wantsStandIn u) = true := by kernel_rfl
        exact (show Tryd.prog.wantsStandIn t = false by simpa using List.all_eq_true.1 hall t hm)⟩)
    (by kernel_rfl)
#print axioms sumBack_holds
end Go.Proofs.YtocpbkmflihcnaaDoor
