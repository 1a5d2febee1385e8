/- The contract of the document's own Split: no statement is proved here. -/
import Derived.Test.YtkklnfihjikilaaDoorPathSplV
import Derived.Test.YtkklnfihjikilaaDoorRefRight
import Derived.Laws.Rows
namespace Go.Proofs.YtkklnfihjikilaaDoor
open Go.RowKit
set_option maxRecDepth 100000

theorem info_str : (Tryd.prog.info? 9).map (fun i => (i.zero, i.size, i.bytes)) = some (some (.string ByteArray.empty), 1, 16) := by kernel_rfl
/-- Texts as they stand in a row. -/
def strV (l : List ByteArray) : List Value := l.map fun s => .string s
/-- What the document's own Split yields. -/
def RefSplitTo (p : ByteArray) (w : World) (e : Ending) (w' : World) : Prop :=
  Below w.heap.size w w' ∧ ((splitOk p = false ∧ e = .returned (.tuple #[.slice none 0 0, .int .i64 40])) ∨
    (splitOk p = true ∧ ∃ a c, e = .returned (.tuple #[.slice a (splitP p).length c, .int .i64 0]) ∧ w'.ownsRow w.heap.size 9 1 (.slice a (splitP p).length c) (splitP p).length (strV (splitP p))))
theorem row_slice {w : World} {B n : Nat} {e : TypeId} {v : Value} {xs : List Value} (h : w.ownsRow B e 1 v n xs) : ∃ a c, v = .slice a n c ∧ n ≤ 9223372036854775807 := by
  rcases h.2 with ⟨hv, hn⟩ | ⟨g, cap, cur, hv, _, _, hc, hm, _⟩
  · exact ⟨none, 0, by rw [hv, hn], by omega⟩
  · exact ⟨_, cap, hv, by unfold maxLen at hm; omega⟩
theorem row_under {w w' : World} {B n : Nat} {e : TypeId} {v : Value} {xs : List Value} (h : w.ownsRow B e 1 v n xs) (hb : Below w.heap.size w w') : w'.ownsRow B e 1 v n xs := by
  obtain ⟨h1, h2⟩ := h
  refine ⟨h1, ?_⟩
  rcases h2 with h2 | ⟨g, cap, cur, hv, hB, hg, r⟩
  · exact .inl h2
  · exact .inr ⟨g, cap, cur, hv, hB, row_then hg hb, r⟩
theorem spl_le {p : ByteArray} {out : List ByteArray} {a i : Nat} (h : SplRel p out a i) (hi : i ≤ p.size) : a ≤ i := by
  obtain ⟨_, _, ⟨_, h, _⟩ | ⟨h, _⟩⟩ := h
  · exact h
  · omega
theorem part_no {q : ByteArray} (h : nameOk q = false) : partOk q = false := by rw [part_name, h, Bool.and_false]
theorem part_dollar {q : ByteArray} (h : 0 < q.size) (hd : ((q[0].toNat : Nat) : Int) = 36) : partOk q = false := by rw [part_name, dollar h, hd]; rfl
theorem part_yes {q : ByteArray} (hn : nameOk q = true) (h : 0 < q.size) (hd : ¬ ((q[0].toNat : Nat) : Int) = 36) : partOk q = true := by
  rw [part_name, dollar h, hn]
  simpa using hd
set_option maxHeartbeats 4000000 in
theorem refSplit_any (p : ByteArray) (hp : okLen p.size) (w : World) (hT : Tabs w) : Calls Tryd.prog 10 #[.string p] w (RefSplitTo p w) := by
  have HT := Lib.hid hT
  obtain ⟨i0, hi0, hz0, hz1, hz2⟩ := info_parts info_str
  have I0 := Lib.hid (And.intro hi0 (And.intro hz0 (And.intro hz1 hz2)))
  clear hi0 hz0 hz1 hz2 hT
  have hp1 : p.size ≤ 140737488351232 := hp
  unfold RefSplitTo
  go_enter Tryd.func10, Tryd.ntmps10
  go_wp2_with fail
  go_loopw [4, 5, 6, 7, 8] (fun o a i _ _ wr => ∃ (out : List ByteArray) (a' i' : Nat), a = .int .i64 a' ∧ i = .int .i64 i' ∧ i' ≤ p.size + 1 ∧ SplRel p out a' i' ∧ wr.ownsRow w.heap.size 9 1 o out.length (strV out) ∧ Below w.heap.size w wr) (fun _ _ i _ _ _ => p.size + 1 - (intOf i).toNat)
  case atStart => exact ⟨[], 0, 0, rfl, rfl, by omega, spl_start p, World.ownsRow_nil _ _ _ _, Below.refl _ _⟩
  case round =>
    obtain ⟨out, a, i, rfl, rfl, hi1, hrel, hown, hbel⟩ := hrel
    obtain ⟨oa, oc, rfl, -⟩ := row_slice hown
    have HR := Lib.hid hrel
    have HW := Lib.hid hown
    have hl := hrel.1
    clear hrel hown
    by_cases hi : i ≤ p.size
    · have ha := spl_le HR.out hi
      by_cases hd : ∃ h : i < p.size, ¬ ((p[i].toNat : Nat) : Int) = 46
      · obtain ⟨hlt, hd⟩ := hd
        have hne : (((p[i].toNat : Nat) : Int) != 46) = true := by simpa using hd
        have HN := Lib.hid (spl_on HR.out hlt (by rw [Lib.data_getElem? p i hlt]; intro e; injection e with e; exact hd (by rw [e]; rfl)))
        clear hd
        go_wp2_with fail
        go_roundw
        case rel => exact ⟨out, a, i + 1, rfl, by go_num, by omega, HN.out, HW.out, hbel⟩
        case measure => simp [intOf]; omega
      · have HE := spl_end HR.out (by
          by_cases hlt : i < p.size
          · left
            refine ⟨hlt, ?_⟩
            rw [Lib.data_getElem? p i hlt]
            have h46 : ((p[i].toNat : Nat) : Int) = 46 := Classical.byContradiction fun h => hd ⟨hlt, h⟩
            congr 1
            exact Lib.byte_eq_of_toNat h46
          · right; omega)
        have hq1 : (p.extract a i).size ≤ 140737488351232 := by simp; omega
        generalize hq : p.extract a i = q at HE hq1
        have HE' := Lib.hid HE
        have HQ := Lib.hid hq
        clear HE hq
        have hway : (∃ _ : i < p.size, (((p[i].toNat : Nat) : Int) != 46) = false) ∨ ¬ ((i : Int) < (p.size : Int)) := by
          by_cases hlt : i < p.size
          · left
            refine ⟨hlt, ?_⟩
            have h46 : ((p[i].toNat : Nat) : Int) = 46 := Classical.byContradiction fun h => hd ⟨hlt, h⟩
            simpa using h46
          · right; omega
        clear hd
        rcases hway with ⟨hlt, h46⟩ | hnl
        all_goals
          have HNM := Lib.hid (refName_any q)
          cases hn : nameOk q with
          | false =>
            rw [hn] at HNM
            have hno := HE'.out.2 (.inl (part_no hn))
            have HNO := Lib.hid hno
            clear hno hn hl
            go_wp2_with (go_at_call 30; rw [HQ.out]; refine (HNM.out _ hq1 (HT.out.then_ hbel)).mono ?_; rintro e w1 ⟨rfl, b1⟩)
            all_goals (try simp only [Exit.inBlock, Exit.then])
            all_goals refine bodyPost_ret (v := .tuple #[.slice none 0 0, .int .i64 40]) (by simp [results, Tryd.results10, go_sem]) rfl ?_
            all_goals exact ⟨below_then hbel b1, .inl ⟨HNO.out, rfl⟩⟩
          | true =>
            rw [hn] at HNM
            have h0 := name_some hn
            by_cases hd36 : ((q[0].toNat : Nat) : Int) = 36
            · have hno := HE'.out.2 (.inl (part_dollar h0 hd36))
              have HNO := Lib.hid hno
              have hdd : (((q[0].toNat : Nat) : Int) == 36) = true := by simpa using hd36
              clear hno hn hl hd36
              go_wp2_with (go_at_call 30; rw [HQ.out]; refine (HNM.out _ hq1 (HT.out.then_ hbel)).mono ?_; rintro e w1 ⟨rfl, b1⟩)
              all_goals (try simp only [Exit.inBlock, Exit.then])
              all_goals refine bodyPost_ret (v := .tuple #[.slice none 0 0, .int .i64 40]) (by simp [results, Tryd.results10, go_sem]) rfl ?_
              all_goals exact ⟨below_then hbel b1, .inl ⟨HNO.out, rfl⟩⟩
            · have hyes := part_yes hn h0 hd36
              have hdd : (((q[0].toNat : Nat) : Int) == 36) = false := by simpa using hd36
              by_cases h10 : (10 : Int) ≤ (out.length : Int)
              · have hno := HE'.out.2 (.inr (by omega))
                have HNO := Lib.hid hno
                clear hno hn hd36 hyes
                go_wp2_with (go_at_call 30; rw [HQ.out]; refine (HNM.out _ hq1 (HT.out.then_ hbel)).mono ?_; rintro e w1 ⟨rfl, b1⟩)
                all_goals (try simp only [Exit.inBlock, Exit.then])
                all_goals refine bodyPost_ret (v := .tuple #[.slice none 0 0, .int .i64 40]) (by simp [results, Tryd.results10, go_sem]) rfl ?_
                all_goals exact ⟨below_then hbel b1, .inl ⟨HNO.out, rfl⟩⟩
              · have HNX := Lib.hid (HE'.out.1 hyes (by omega))
                clear hn hd36 hyes
                go_wp2_with (first
                  | (go_at_call 30; rw [HQ.out]; refine (HNM.out _ hq1 (HT.out.then_ hbel)).mono ?_; rintro e w1 ⟨rfl, b1⟩; have B1 := Lib.hid (below_then hbel b1); have HW1 := Lib.hid (row_under HW.out b1))
                  | (at_builtin; refine wpList_append_own _ rfl (.tmp 43) (.tmp 45) 23 rfl w.heap.size 9 i0 _ 1 16 Tryd.underlying23 I0.out.1 I0.out.2.1 I0.out.2.2.1 I0.out.2.2.2 rfl (by decide) _ out.length _ rfl (HW1.out.alloc _) ⟨w1.heap.size, 0, none⟩ 1 1 [.string q] rfl rfl ((World.ownsRow_lit (size := 1) (e := 9) w1 #[.string q] 1 (Nat.le_refl _) (by decide) rfl).cells rfl) (by intro u hu; simp at hu; subst hu; rfl) (by unfold maxLen; omega) (by omega) (Nat.le_trans B1.out.size (below1 _ _).size) ?_; intro v' w2 own1 grow1 _; have O1 := Lib.hid own1; have G1 := Lib.hid grow1; clear own1 grow1))
                go_roundw
                case rel =>
                  refine ⟨out ++ [q], i + 1, i + 1, by go_num, by go_num, by omega, HNX.out, ?_, ?_⟩
                  · rw [List.length_append, show strV (out ++ [q]) = strV out ++ [.string q] by simp [strV]]
                    exact O1.out
                  · exact (below_then B1.out (below1 _ _)).grown G1.out (Nat.le_trans B1.out.size (below1 _ _).size) (fun g hg => (HW1.out.lt g hg).1)
                case measure => simp [intOf]; omega
    · obtain ⟨hyes, hall⟩ := spl_done HR.out hi
      have HY := Lib.hid hyes
      have HA := Lib.hid hall
      clear hyes hall
      go_wp2_with fail
      all_goals (try simp only [Exit.inBlock, Exit.then])
      refine bodyPost_ret (v := .tuple #[.slice oa out.length oc, .int .i64 0]) (by simp [results, Tryd.results10, go_sem]) rfl ?_
      refine ⟨hbel, .inr ⟨HY.out, oa, oc, by rw [HA.out], ?_⟩⟩
      rw [HA.out]
      exact HW.out
end Go.Proofs.YtkklnfihjikilaaDoor
