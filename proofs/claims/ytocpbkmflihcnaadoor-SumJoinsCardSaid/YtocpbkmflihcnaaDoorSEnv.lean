/- What layer 11's statements need of the program: its five calls' contracts, in one; and the document's examples. No statement is proved here. -/
import Derived.Test.YtocpbkmflihcnaaDoorSRefJ3
import Derived.Test.YtocpbkmflihcnaaDoorSRead2
import Derived.Test.YtocpbkmflihcnaaDoorSOwned
import Derived.Lib.SlBytesConst
namespace Go.Proofs.YtocpbkmflihcnaaDoor
open Go.RowKit
set_option maxRecDepth 100000

/-- The program's calls answer so, in every world that has grown out of W. -/
structure P11 (W : World) : Prop where
  sum : ∀ (a : Option Addr) (c n : Nat) (l : List Int) (w : World), Below W.heap.size W w → InB w a l → isB l → l.length = n → n ≤ 140737488351232 →
    Calls Tryd.prog 12 #[.slice a n c] w fun e w' => e = .returned (.int .i64 (moreP 0 l)) ∧ Below w.heap.size w w'
  more : ∀ (s : Int) (a : Option Addr) (c n : Nat) (l : List Int) (w : World), Below W.heap.size W w → InB w a l → isB l → l.length = n → n ≤ 140737488351232 → okInt s →
    Calls Tryd.prog 13 #[.int .i64 s, .slice a n c] w fun e w' => e = .returned (.tuple #[.int .i64 (moreP s l), .int .i64 (moreE s)]) ∧ Below w.heap.size w w'
  join : ∀ (x y n : Int) (w : World), Below W.heap.size W w → okInt x → okInt y → okInt n →
    Calls Tryd.prog 17 #[.int .i64 x, .int .i64 y, .int .i64 n] w fun e w' => e = .returned (.tuple #[.int .i64 (joinP x y n), .int .i64 (joinE x y n)]) ∧ Below w.heap.size w w'
  number : ∀ (n size : Int) (w : World), Below W.heap.size W w → okInt n → okInt size → Calls Tryd.prog 19 #[.int .i64 n, .int .i64 size] w (NumTo n size w)
  read : ∀ (a : Option Addr) (c n : Nat) (l : List Int) (at_ size : Int) (w : World), Below W.heap.size W w → InB w a l → isB l → l.length = n → n ≤ c → n ≤ 140737488351232 → okInt at_ → okInt size →
    Calls Tryd.prog 21 #[.slice a n c, .int .i64 at_, .int .i64 size] w fun e w' => e = .returned (.tuple #[.int .i64 (readP l at_ size), .int .i64 (readE l at_ size)]) ∧ Below w.heap.size w w'
theorem InB.lit (w : World) (bs : List Int) : InB (w.alloc (.cells (btV bs).toArray 5)) (some ⟨w.heap.size, 0, none⟩) bs := fun i x hx => by
  refine ⟨w.heap.size, 0, rfl, ?_⟩
  have h := news_at w (btV bs).toArray 5 _ rfl i (.int .u8 x) (by simp [btV, hx])
  rw [show (⟨w.heap.size, 0, none⟩ : Addr).add i = ⟨w.heap.size, 0 + i, none⟩ by unfold Addr.add; split <;> simp_all] at h
  exact h
theorem InB.litF (w : World) (bs : List Int) (fr : Nat × Nat) : InB (w.alloc (.cells (btV bs).toArray 5 fr)) (some ⟨w.heap.size, 0, none⟩) bs := fun i x hx => by
  refine ⟨w.heap.size, 0, rfl, ?_⟩
  rw [World.cell?_alloc_mark]
  simp [btV, hx]
def exA : List Int := [49, 50, 51, 52, 53, 54, 55, 56, 57]
def exB : List Int := [49, 50, 51, 52]
def exC : List Int := [53, 54, 55, 56, 57]
theorem exA_is : moreP 0 exA = 3421780262 := by kernel_rfl
theorem exJ_is : joinP (moreP 0 exB) (moreP 0 exC) 5 = 3421780262 := by kernel_rfl
theorem exE_is : joinE (moreP 0 exB) (moreP 0 exC) 5 = 0 := by kernel_rfl
theorem moreP_rng {s : Int} {l : List Int} (h : isB l) : 0 ≤ moreP s l ∧ moreP s l ≤ 4294967295 := by
  unfold moreP
  cases hm : mayB s
  · exact ⟨by simp, by simp⟩
  · have hs : 0 ≤ s ∧ s ≤ 4294967295 := of_decide_eq_true hm
    have := moreN_lt (s := s.toNat) (natL l) (by omega) (natL_byte h)
    simp
    omega
theorem moreP_ok {s : Int} {l : List Int} (h : isB l) : okInt (moreP s l) := by
  have := moreP_rng (s := s) h
  unfold okInt
  omega
theorem isB_of {l : List Int} (h : l.all (fun b => decide (0 ≤ b ∧ b ≤ 255)) = true) : isB l := fun b hb => by
  have := List.all_eq_true.1 h b hb
  exact of_decide_eq_true this
theorem exA_b : isB exA := isB_of (by decide)
theorem exB_b : isB exB := isB_of (by decide)
theorem exC_b : isB exC := isB_of (by decide)
def exD : List Int := [2, 1, 7]
theorem exD_b : isB exD := isB_of (by decide)
theorem num_ok : numL 258 2 = [2, 1] ∧ numE 258 2 = 0 ∧ numE 258 1 = 1 ∧ readP exD 0 2 = 258 ∧ readE exD 0 2 = 0 := by decide
set_option maxHeartbeats 4000000 in
theorem awake11_any {W : World} (P : P11 W) (w : World) (hw : Below W.heap.size W w) : Calls Tryd.prog 10 #[] w fun e w' => e = .returned (.bool true) ∧ Below w.heap.size w w' := by
  have HP := Lib.hid P
  have HW := Lib.hid hw
  clear P hw
  have kc := fun (w : World) (C : Array Value) (n c : Nat) => Lib.run_convert_bytes_const (P := Tryd.prog) w 22 5 C n c Tryd.underlying22 Tryd.underlying5
  go_enter Tryd.func10, Tryd.ntmps10
  go_wp2_with fail
  refine (HP.out.sum _ 9 9 exA _ (HW.out.alloc HW.out.size _) (InB.litF w exA _) exA_b rfl (by omega)).mono ?_
  rintro e w1 ⟨rfl, hb1⟩
  rw [exA_is]
  have B1 := Lib.hid (below_then (below1 w _) hb1)
  clear hb1
  have W1 := Lib.hid (HW.out.trans (B1.out.mono HW.out.size))
  go_wp2_with fail
  refine (HP.out.sum _ 4 4 exB _ (W1.out.alloc W1.out.size _) (InB.litF w1 exB _) exB_b rfl (by omega)).mono ?_
  rintro e w2 ⟨rfl, hb2⟩
  have eB := moreP_ok (s := 0) exB_b
  have eC := moreP_ok (s := 0) exC_b
  have EJ := exJ_is
  have EE := exE_is
  generalize moreP 0 exB = sB at *
  have B2 := Lib.hid (below_then B1.out (below_then (below1 w1 _) hb2))
  have W2 := Lib.hid (HW.out.trans (B2.out.mono HW.out.size))
  have EO := Lib.hid (And.intro EJ (And.intro EE (And.intro eB eC)))
  clear hb2 EJ EE eB eC
  go_wp2_with fail
  refine (HP.out.sum _ 5 5 exC _ (W2.out.alloc W2.out.size _) (InB.litF w2 exC _) exC_b rfl (by omega)).mono ?_
  rintro e w3 ⟨rfl, hb3⟩
  generalize moreP 0 exC = sC at *
  have B3 := Lib.hid (below_then B2.out (below_then (below1 w2 _) hb3))
  have W3 := Lib.hid (HW.out.trans (B3.out.mono HW.out.size))
  clear hb3
  go_wp2_with fail
  refine (HP.out.join sB sC 5 _ W3.out EO.out.2.2.1 EO.out.2.2.2 (by unfold okInt; omega)).mono ?_
  rintro e w4 ⟨rfl, hb4⟩
  rw [EO.out.1, EO.out.2.1]
  have B4 := Lib.hid (below_then B3.out hb4)
  have W4 := Lib.hid (HW.out.trans (B4.out.mono HW.out.size))
  clear hb4
  go_wp2_with fail
  refine (HP.out.number 258 2 _ W4.out (by unfold okInt; omega) (by unfold okInt; omega)).mono ?_
  rintro e w5 ⟨v5, rfl, ho5, hb5⟩
  rw [num_ok.1] at ho5
  rw [num_ok.2.1]
  obtain ⟨g5, c5, rfl, -⟩ := ho5.form (by decide)
  have O5 := Lib.hid ho5
  have B5 := Lib.hid (below_then B4.out hb5)
  have W5 := Lib.hid (HW.out.trans (B5.out.mono HW.out.size))
  clear hb5 ho5
  go_wp2_with fail
  refine (HP.out.read _ 3 3 exD 0 2 _ (W5.out.alloc W5.out.size _) (InB.litF w5 exD _) exD_b rfl (Nat.le_refl _) (by omega) (by unfold okInt; omega) (by unfold okInt; omega)).mono ?_
  rintro e w6 ⟨rfl, hb6⟩
  rw [num_ok.2.2.2.1, num_ok.2.2.2.2]
  have O6 := Lib.hid (O5.out.then_ (below_then (below1 w5 _) hb6))
  have B6 := Lib.hid (below_then B5.out (below_then (below1 w5 _) hb6))
  have W6 := Lib.hid (HW.out.trans (B6.out.mono HW.out.size))
  clear hb6
  go_wp2_with fail
  refine (HP.out.number 258 1 _ W6.out (by unfold okInt; omega) (by unfold okInt; omega)).mono ?_
  rintro e w7 ⟨v7, rfl, ho7, hb7⟩
  rw [num_ok.2.2.1]
  have O7 := O6.out.then_ hb7
  have c0 := (O7.at_ (j := 0) (x := 2) rfl).1
  have c1 := (O7.at_ (j := 1) (x := 1) rfl).1
  have B7 := Lib.hid (below_then B6.out hb7)
  clear hb7 ho7 O7
  go_wp2_with fail
  go_ret
  exact ⟨rfl, B7.out⟩
end Go.Proofs.YtocpbkmflihcnaaDoor
