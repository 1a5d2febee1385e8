/- The contracts of mayBePart and Split: no statement is proved here. -/
import Derived.Test.YtcpbdmgkeljkgaaGreatDoorJ1
import Derived.Test.YtcpbdmgkeljkgaaGreatDoorJ8
import Derived.Shelf.Strings.Split
import Derived.Shelf.Strings.Prefix
namespace Go.Proofs.YtcpbdmgkeljkgaaGreatDoor
open Go.RowKit
set_option maxRecDepth 100000

def nullT : T := .mk 2 0 ⟨#[]⟩ none 0 [] none 0 []
/-- A document with one field of that name, which is null. -/
def oneV (s : ByteArray) : V := .mk 5 0 ⟨#[]⟩ [] [(s, nullV)]
def oneT (g : Nat) (s : ByteArray) : T := .mk 5 0 ⟨#[]⟩ none 0 [] (some ⟨g, 0, none⟩) 1 [(s, nullT)]
/-- May a path have that part? -/
def partOk (s : ByteArray) : Bool := !(Lib.hasPrefix s.data.toList [36]) && (rightOf (oneV s) == 0)
theorem oneT_in {w : World} {g : Nat} {s : ByteArray} (h : w.heap[g]? = some (.cells #[.string s, .int .i64 2, .int .i64 0, .string ⟨#[]⟩, .slice none 0 0, .slice none 0 0] 44 (0, 0))) : (oneT g s).In w := by
  intro p hp
  simp [oneT, nullT, T.places, T.placesL, T.placesD, laid, fcells, T.cells, at_] at hp
  rcases hp with rfl | rfl | rfl | rfl | rfl | rfl <;> simp [cell_of_row w g _ _ _ _ h]
theorem oneT_ok {g : Nat} {s : ByteArray} (hs : okLen s.size) : (oneT g s).ok := by
  have h0 : (ByteArray.mk #[]).size = 0 := rfl
  simp [oneT, nullT, T.ok, T.okL, T.okD, okInt, okLen, okFar, h0] at hs ⊢
  omega
theorem prefix_any (s p : ByteArray) (w : World) : Calls Tryz.prog 35 #[.string s, .string p] w fun e w' => e = .returned (.bool (Lib.hasPrefix s.data.toList p.data.toList)) ∧ w = w' :=
  (Any.strings_HasPrefix Tryz.laysPrefix s p w).mono fun _ _ h => ⟨h.1, h.2.symm⟩
set_option maxHeartbeats 4000000 in
theorem mayBe_any (s : ByteArray) (hs : okLen s.size) (w : World) (hT : Tabs w) : Calls Tryz.prog 55 #[.string s] w fun e w' => e = .returned (.bool (partOk s)) ∧ Below w.heap.size w w' := by
  have HT := Lib.hid hT
  have HO := Lib.hid (fun g => oneT_ok (g := g) hs)
  unfold partOk
  clear hT hs
  go_enter Tryz.func55, Tryz.ntmps55
  go_wp2_with (first
    | (go_at_call 35; refine (prefix_any _ _ _).mono ?_; rintro e w1 ⟨rfl, rfl⟩)
    | (go_at_call 15; refine (right_any (oneT w.heap.size s) (HO.out _) _ (oneT_in (heap_alloc2_old _ _ _)) (HT.out.then_ (below2 _ _ _))).mono ?_; rintro e w2 ⟨rfl, hb2⟩))
  · go_ret
    exact ⟨ret_bool (by rw [‹Lib.hasPrefix s.data.toList [36] = true›]; rfl), below2 _ _ _⟩
  · go_ret
    exact ⟨ret_bool (by simp [‹¬ Lib.hasPrefix s.data.toList [36] = true›]; rfl), below_then (below2 _ _ _) hb2⟩

def dotB : ByteArray := ⟨#[46]⟩
/-- A path's parts, one more than may be at most. -/
def splitP (p : ByteArray) : List ByteArray := Lib.splitB dotB 0 (min 11 (p.size + 1) - 1) p
theorem splitN_any (s : ByteArray) (hs : s.size < 4294967281) (m : Int) (w : World) (hm : w.cell? ⟨Tryz.laysSplitN_ren.g 1, 0, none⟩ = some (.int .i64 m)) : Calls Tryz.prog 53 #[.string s, .string ⟨#[46]⟩, .int .i64 11] w fun e w' =>
    e = .returned (.slice (some ⟨w.heap.size, 0, none⟩) (splitP s).length (min 11 (s.size + 1))) ∧ w' = w.alloc (.cells (Lib.cellsOf (splitP s) (min 11 (s.size + 1))) 9) :=
  Any.strings_SplitN Tryz.laysSplitN (by kernel_rfl) s ⟨#[46]⟩ 11 m w hs hm (by decide) (by decide) (by decide)
theorem split_size : ∀ (k : Nat) (s : ByteArray), ∀ x ∈ Lib.splitB dotB 0 k s, x.size ≤ s.size := by
  intro k
  induction k with
  | zero => intro s x hx; rw [Lib.splitB_zero] at hx; rw [List.mem_singleton.1 hx]; exact Nat.le_refl _
  | succ k ih =>
    intro s x hx
    rw [Lib.splitB] at hx
    split at hx
    · rw [List.mem_singleton.1 hx]; exact Nat.le_refl _
    · rcases List.mem_cons.1 hx with rfl | hx
      · simp
        omega
      · have := ih _ x hx
        simp at this
        omega
theorem cells_at {l : List ByteArray} {N i : Nat} {x : ByteArray} (h : l[i]? = some x) : (Lib.cellsOf l N)[i]? = some (.string x) := by
  have hi := lt_of_get h
  unfold Lib.cellsOf
  rw [List.getElem?_toArray, List.getElem?_append_left (by simpa using hi), List.getElem?_map, h]
  rfl
/-- May a path be so? -/
def splitOk (p : ByteArray) : Bool := decide ((splitP p).length ≤ 10) && (splitP p).all partOk
/-- What Split yields: the parts in a row of the call's own, or the fault. -/
def SplitTo (p : ByteArray) (w : World) (e : Ending) (w' : World) : Prop :=
  Below w.heap.size w w' ∧ ((splitOk p = false ∧ e = .returned (.tuple #[.slice none 0 0, .int .i64 40])) ∨
    (splitOk p = true ∧ ∃ g c, w.heap.size ≤ g ∧ e = .returned (.tuple #[.slice (some ⟨g, 0, none⟩) (splitP p).length c, .int .i64 0]) ∧ (splitP p).length ≤ c ∧ c ≤ 11 ∧ w'.heap[g]? = some (.cells (Lib.cellsOf (splitP p) c) 9 (0, 0))))
set_option maxHeartbeats 4000000 in
theorem split_any (s : ByteArray) (hs : s.size < 4294967281) (w : World) (hT : Tabs w) (m : Int) (hm : w.cell? ⟨Tryz.laysSplitN_ren.g 1, 0, none⟩ = some (.int .i64 m)) : Calls Tryz.prog 42 #[.string s] w (SplitTo s w) := by
  have HT := Lib.hid hT
  have HN := Lib.hid (splitN_any s hs m w hm)
  have hle : (splitP s).length ≤ min 11 (s.size + 1) := by
    have := Lib.splitB_length_le dotB 0 (min 11 (s.size + 1) - 1) s
    unfold splitP
    omega
  have hsz := Lib.hid (fun x (hx : x ∈ splitP s) => (show okLen x.size by have := split_size _ s x hx; unfold okLen; omega))
  have HE := Lib.hid (show splitOk s = (decide ((splitP s).length ≤ 10) && (splitP s).all partOk) from rfl)
  unfold SplitTo
  generalize hP : splitP s = P at HN hle hsz HE ⊢
  generalize hN : min 11 (s.size + 1) = N at HN hle
  have hN11 : N ≤ 11 := by omega
  generalize splitOk s = ok at HE ⊢
  clear hT hm hs hP hN
  go_enter Tryz.func42, Tryz.ntmps42
  go_wp2_with (first
    | (go_at_call 53; refine HN.out.mono ?_; rintro e w1 ⟨rfl, hw1⟩; have hr1 : w1.heap[w.heap.size]? = some (.cells (Lib.cellsOf P N) 9 (0, 0)) := (by rw [hw1]; exact heap_alloc_new w _); have B1 := Lib.hid (show Below w.heap.size w w1 by rw [hw1]; exact below1 w _); have HC := Lib.hid (fun i x (h : P[i]? = some x) => (row_cells hr1 i).trans (cells_at h)); clear hw1)
    | (go_at_call 54; refine (tooMany_any _ _ _ _).mono ?_; rintro e w2 ⟨rfl, rfl⟩))
  · have hno : ok = false := by rw [HE.out, decide_eq_false (by omega)]; rfl
    refine bodyPost_ret (v := .tuple #[.slice none 0 0, .int .i64 40]) (by simp [results, Tryz.results42, go_sem]) rfl ?_
    exact ⟨B1.out, .inl ⟨hno, rfl⟩⟩
  · go_loopw [6, 13] (fun _ i wr => ∃ k : Nat, k ≤ P.length ∧ i = .int .i64 k ∧ Below w2.heap.size w2 wr ∧ ∀ x ∈ P.take k, partOk x = true) (fun _ i _ => P.length - (intOf i).toNat)
    case atStart => exact ⟨0, by omega, rfl, Below.refl _ _, by simp⟩
    case round =>
      obtain ⟨k, hk, rfl, hbel, hall⟩ := hrel
      have HA := Lib.hid hall
      clear hall
      by_cases h1 : k < P.length
      · obtain ⟨x, hx⟩ : ∃ x, P[k]? = some x := ⟨_, List.getElem?_eq_getElem h1⟩
        have hc := HC.out k x hx
        have hc2 : wr.cell? ⟨w.heap.size, k, none⟩ = some (.string x) := (hbel.cell (cell_lt hc)).trans hc
        have HM := Lib.hid (mayBe_any x (hsz.out x (List.mem_of_getElem? hx)) wr ((HT.out.then_ B1.out).then_ hbel))
        have HX := Lib.hid hx
        have h0 : ¬ ((k : Int) < 0) := by omega
        clear hc hx
        cases hp : partOk x with
        | false =>
          rw [hp] at HM
          go_wp2_with (go_at_call 55; refine HM.out.mono ?_; rintro e w3 ⟨rfl, hb3⟩)
          have hno : ok = false := by
            rw [HE.out, Bool.and_eq_false_iff]
            right
            cases hq : P.all partOk with
            | false => rfl
            | true => have := List.all_eq_true.1 hq x (List.mem_of_getElem? HX.out); rw [hp] at this; cases this
          refine bodyPost_ret (v := .tuple #[.slice none 0 0, .int .i64 40]) (by simp [results, Tryz.results42, go_sem]) rfl ?_
          exact ⟨below_then (below_then B1.out hbel) hb3, .inl ⟨hno, rfl⟩⟩
        | true =>
          rw [hp] at HM
          go_wp2_with (go_at_call 55; refine HM.out.mono ?_; rintro e w3 ⟨rfl, hb3⟩)
          go_roundw
          case rel =>
            refine ⟨k + 1, by omega, by go_num, below_then hbel hb3, fun y hy => ?_⟩
            rw [List.take_add_one, HX.out] at hy
            rcases List.mem_append.1 hy with hy | hy
            · exact HA.out y hy
            · simp at hy
              rw [hy]
              exact hp
          case measure => simp [intOf]; omega
      · have hyes : ok = true := by
          rw [HE.out, decide_eq_true (by omega), Bool.true_and, List.all_eq_true]
          intro x hx
          exact HA.out x (by rw [List.take_of_length_le (by omega)]; exact hx)
        go_wp2_with fail
        refine bodyPost_ret (v := .tuple #[.slice (some ⟨w.heap.size, 0, none⟩) P.length N, .int .i64 0]) (by simp [results, Tryz.results42, go_sem]) rfl ?_
        exact ⟨below_then B1.out hbel, .inr ⟨hyes, _, _, Nat.le_refl _, rfl, hle, hN11, row_then hr1 hbel⟩⟩
#print axioms split_any
end Go.Proofs.YtcpbdmgkeljkgaaGreatDoor
