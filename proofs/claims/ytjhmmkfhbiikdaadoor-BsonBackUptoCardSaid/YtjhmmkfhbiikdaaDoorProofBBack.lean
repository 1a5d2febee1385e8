/- BsonBack: for every value, two rows of bytes and number that the arguments may read as, of bulk at most 1048576 (the statement's second form: rows that together are longer than memory can not be joined), the law returns true, and each argument reads as it did; the listed tables are as the program's text lays them. -/
import Derived.Test.YtjhmmkfhbiikdaaDoorBase2
import Derived.Test.YtjhmmkfhbiikdaaDoorLawBBack
import Derived.Deep.DeepHandedRow
import Derived.ChangeMaps5
import Derived.Carry
namespace Go.Proofs.YtjhmmkfhbiikdaaDoor
open Go.RowKit Go.ChangeShapes Go.WideShapes Go.ChangeAt
set_option maxRecDepth 100000

theorem bulk_one {H : Type} (d : DataW H) : 1 ≤ Rows.uptoBulk d := by
  cases d with
  | lit x => cases x <;> simp [Rows.uptoBulk]
  | _ => simp [Rows.uptoBulk]
theorem bulk_all {H : Type} : ∀ ds : List (DataW H), ds.length ≤ Rows.uptoBulkAll ds := by
  intro ds
  induction ds with
  | nil => simp [Rows.uptoBulkAll]
  | cons d r ih =>
    have := bulk_one d
    rw [Rows.uptoBulkAll, List.length_cons]
    omega
theorem bulk_bytes {H : Type} {enc : TypeId × Value → H} {W : World} {la : Option Addr} {n c : Nat} {d : DataW H} {p : List MemPlace} (h : DataW.Trod enc Tryd.prog W 0 (fun _ => true) true 28 (.slice la n c) d p) : n ≤ Rows.uptoBulk d := by
  obtain ⟨fuel, hf⟩ := h
  rcases DataW.trod_slice Tryd.underlying28 hf with ⟨hc, -⟩ | ⟨a, len, cap, elems, rest, n2, rfl, hc, hx, -, hl, -, hel, hi, hsp, -⟩
  · simp [Value.cells] at hc
    omega
  · simp [Value.cells] at hc
    have e := congrArg Prod.fst hx
    simp only at e
    subst e
    have h1 := bulk_all (elems.map (·.1))
    rw [List.length_map] at h1
    rw [Rows.uptoBulk]
    omega
theorem bback_reads (os : Os) {H : Type} (enc : TypeId × Value → H) : ∃ places, DataW.whole enc Tryd.prog ((World.laidAll Tryd.prog os laidAll).forCall (fun _ _ => 0) ⟨#[], #[zeroArg, .slice none 0 0, .slice none 0 0, .int .i64 0], []⟩).memory Tryd.f5.params.toList Rows.bsonBackSpec.vars false #[zeroArg, Value.slice none 0 0, .slice none 0 0, .int .i64 0].toList 8 = some ([.agg [.lit (.int .i64 0), .lit (.int .i64 0), .lit (.string []), .nil, .nil], .nil, .nil, .lit (.int .i64 0)], [], places) :=
  ⟨[], by kernel_rfl⟩
theorem bback_lifted (os : Os) (started : os.Started) (H : Type) (enc : TypeId × Value → H) (F : Stop.Interp) :
    ReturnsInHanded {} Tryd.checked os 5 .any ((Rows.OpenSpec.upto Rows.bsonBackSpec).preRow enc Tryd.prog Tryd.f5 Rows.bsonBackUptoRow.domain false Rows.bsonBackUptoRow.laid) (((Rows.OpenSpec.upto Rows.bsonBackSpec).at F).post enc Tryd.prog Tryd.f5 false true false false) := by
  obtain ⟨places, hx⟩ := bback_reads os enc
  refine returnsInHanded_of_row (C := Tryd.checked) (s := Rows.OpenSpec.upto Rows.bsonBackSpec) own started (by kernel_rfl) Tryd.func5
    ⟨World.laidAll Tryd.prog os laidAll, fun _ _ => 0, ⟨#[], #[zeroArg, .slice none 0 0, .slice none 0 0, .int .i64 0], []⟩, World.laidAll_os _ _ _, World.shaped_of_ZipB (by kernel_rfl) (by kernel_rfl), rfl, (Input.okWide_of_okWideB (by kernel_rfl)).2,
      OpenSpec.preRow_of_cond 8 hx (by kernel_rfl) (fun k hk => by cases hk; kernel_rfl) (by kernel_rfl)
        (by show laidMetH Tryd.prog laidAll _; rw [MakeChecks.laidMetH_plain _ _ _ (by kernel_rfl)]; exact laidMet_laidAll _ (by kernel_rfl) (by kernel_rfl)),
      by simp [Assume.holds]⟩ ?_
  intro W base args ds gs before hval0 hW _ hcond hreach hL hsh _
  have hval : ∀ (j : Nat) t v, Tryd.f5.params[j]? = some t → args[j]? = some v → Value.okWide Tryd.prog W .any base t v := hval0
  have hW' := hW
  obtain ⟨p, q, hA0, hV, rfl, _, _⟩ := hW
  have hA : DataW.TrodAll enc Tryd.prog W 0 (fun _ => true) true Tryd.f5.params.toList args.toList ds p := hA0
  rw [Tryd.params5] at hA hval
  obtain ⟨v0, v1, v2, v3, d0, d1, d2, d3, p0, p1, p2, p3, rfl, rfl, rfl, h0, h1, h2, h3⟩ := trodAll_four hA
  obtain ⟨rfl, rfl⟩ := trodVars_none hV
  have hre : reached (DataW.weightsEach Tryd.prog [25, 28, 28, 3] [d0, d1, d2, d3]) := hreach
  simp only [DataW.weightsEach, reached_append] at hre
  obtain ⟨r0, r1, r2, r3, -⟩ := hre
  obtain ⟨t, rfl, hin, ok⟩ := open_arg (hval 0 25 v0 rfl rfl) h0 r0
  obtain ⟨la, lca, a, rfl, ha, hba, hca, hna⟩ := open_bytes (hval 1 28 v1 rfl rfl) h1 r1
  obtain ⟨lb, lcb, b, rfl, hb, hbb, hcb, hnb⟩ := open_bytes (hval 2 28 v2 rfl rfl) h2 r2
  obtain ⟨cut, rfl, hc0, hc1⟩ := open_int (hval 3 3 v3 rfl rfl) h3
  have hbk := of_decide_eq_true (hcond _ rfl)
  simp only [Rows.uptoBulkAll, List.append_nil] at hbk
  have k1 := bulk_bytes h1
  have k2 := bulk_bytes h2
  have hL2 : laidMetH Tryd.prog laidAll W := hL
  rw [MakeChecks.laidMetH_plain _ _ _ (by kernel_rfl)] at hL2
  have hlt := hW'.lt
  refine (bback_law t la lca a lb lcb b cut W ok hin ha hba hna hca.1 (by omega) hb hbb hnb hcb.1 (by omega) hc0 hc1 (env2_of hL2) (Nat.le_refl _)).mono fun e W' ⟨he, hbel⟩ => ?_
  subst he
  exact ⟨_, rfl, _, _, _, [], _, [], hW', trodAll_mk1 (shut_bool Tryd.underlying4 _), trodAll_mk4 (back_arg h0 hbel (fun x hx => hlt x (by simp [hx]))) (back_bytes h1 hbel (fun x hx => hlt x (by simp [hx]))) (back_bytes h2 hbel (fun x hx => hlt x (by simp [hx]))) (back_int h3 hbel (fun x hx => hlt x (by simp [hx]))), rfl, hbel.frame _, fun h => by cases h⟩

theorem bback_said : Rows.BsonBackUptoSaid :=
  OpenClaim.holds_of_cond 5 Tryd.f5 rfl rfl rfl rfl rfl rfl rfl ⟨rfl, rfl, rfl, rfl, rfl⟩ rfl rfl rfl rfl rfl (by kernel_rfl) Tryd.func5 (by kernel_rfl)
    (of_decide_eq_true (by kernel_rfl)) (by unfold Func.isWrapper; first | (rw [if_pos (by decide +kernel)]; kernel_rfl) | (rw [if_neg (by decide +kernel)]; exact ⟨rfl, rfl⟩))
    (fun os started H enc _ F => by rw [OpenClaim.pre_eq_preRow]; exact bback_lifted os started H enc F)
theorem bback_holds : Rows.BsonBackUptoCardSaid :=
  Claim7.holds_tied_plain_at .later [] [.data, .data, .data, .data, .data, .pinned] true (true, "e18551b2f5ab862d5fe545c531e1ed602702cfd6fe4cd0d455d22089f8370f92") true bback_said (fun _ h => by cases h) (by kernel_rfl) (fun _ h => by cases h) bsonBackUpto_row_tie rfl ⟨rfl, rfl⟩ (by kernel_rfl) rfl
    (fun f fn hf hfn => by
      obtain rfl : f = 5 := Option.some.inj ((show Tryd.prog.funcNamed "coffret/coffretlaw02.BsonBack" = some 5 by kernel_rfl).symm.trans hf) |>.symm
      obtain rfl : fn = Tryd.f5 := (Option.some.inj (Tryd.func5.symm.trans hfn)).symm
      exact ⟨by kernel_rfl, fun j t ht => by
        rw [Tryd.params5] at ht
        have hm : t ∈ [25, 28, 28, 3] := by simpa using Array.mem_of_getElem? ht
        have hall : ([25, 28, 28, 3].all fun u => !Tryd.prog.wantsStandIn u) = true := by kernel_rfl
        exact (show Tryd.prog.wantsStandIn t = false by simpa using List.all_eq_true.1 hall t hm)⟩)
    (by kernel_rfl)
#print axioms bback_holds
end Go.Proofs.YtjhmmkfhbiikdaaDoor
