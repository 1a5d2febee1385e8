/- What layer 12's statements of bytes need of the program: its two calls' contracts, in one; and the document's examples. No statement is proved here. -/
import Derived.Test.YtlpnhfceblbllaaDoorJ1
namespace Go.Proofs.YtlpnhfceblbllaaDoor
open Go.RowKit
set_option maxRecDepth 100000

/-- What Make tells. -/
def MakeTo (number kind : Int) (l : List Int) (w : World) (e : Ending) (w' : World) : Prop := ∃ v, e = .returned (.tuple #[v, .int .i64 (makeE number kind l.length)]) ∧ OwnB w' w.heap.size v (makeL number kind l) ∧ Below w.heap.size w w'
/-- The program's calls answer so, in every world that has grown out of W. -/
structure P12 (W : World) : Prop where
  make : ∀ (number kind : Int) (a : Option Addr) (n c : Nat) (l : List Int) (w : World), Below W.heap.size W w → okInt number → okInt kind → InB w a l → isB l → l.length = n → n ≤ c → c ≤ maxLen → (a = none → c = 0 ∧ l = []) →
    Calls Tryd.prog 10 #[.int .i64 number, .int .i64 kind, .slice a n c] w (MakeTo number kind l w)
  opens : ∀ (number : Int) (a : Option Addr) (n c : Nat) (l : List Int) (w : World), Below W.heap.size W w → okInt number → InB w a l → isB l → l.length = n → n ≤ c → c ≤ maxLen → (a = none → c = 0 ∧ l = []) →
    Calls Tryd.prog 14 #[.slice a n c, .int .i64 number] w (OpenTo l number w)
def exG : List Int := [7, 8]
theorem exG_b : isB exG := isB_of (by decide)
theorem exG_ok : okG 3 2 exG.length = true := by decide
theorem exG_make : makeE 3 2 2 = 0 ∧ makeL 3 2 exG = pageL 3 2 exG := ⟨by decide, by unfold makeL; rw [if_pos exG_ok]⟩
theorem exG_open : openE (pageL 3 2 exG) 3 = 0 ∧ openK (pageL 3 2 exG) 3 = 2 ∧ openL (pageL 3 2 exG) 3 = [7, 8] ∧ openE (pageL 3 2 exG) 4 = 121 := by
  have h := open_made exG_ok exG_b 3
  have h4 := open_made exG_ok exG_b 4
  exact ⟨by rw [h.1]; rfl, h.2.1, h.2.2, by rw [h4.1]; rfl⟩
theorem exG_at : (pageL 3 2 exG)[4]? = some 3 ∧ (pageL 3 2 exG)[11]? = some 7 ∧ (pageL 3 2 exG).length = 4096 := by
  refine ⟨?_, ?_, pageL_len (by decide)⟩
  · unfold pageL; rw [List.getElem?_append_right (by rw [leB_len]; omega), leB_len]; rfl
  · unfold pageL; rw [List.getElem?_append_right (by rw [leB_len]; omega), leB_len]; rfl
theorem exG_nil : openE [] 3 = 122 := by unfold openE; rw [if_neg (by decide)]
theorem exG_byte : isB (pageL 3 2 exG) := pageL_byte exG_b
set_option maxHeartbeats 4000000 in
theorem awake12_any {W : World} (P : P12 W) (w : World) (hw : Below W.heap.size W w) : Calls Tryd.prog 8 #[] w fun e w' => e = .returned (.bool true) ∧ Below w.heap.size w w' := by
  have HP := Lib.hid P
  have HW := Lib.hid hw
  clear P hw
  go_enter Tryd.func8, Tryd.ntmps8
  go_wp2_with fail
  refine (HP.out.make 3 2 _ 2 2 exG _ (HW.out.alloc HW.out.size _) (by unfold okInt; omega) (by unfold okInt; omega) (InB.litF w exG _) exG_b rfl (Nat.le_refl _) (by decide) (fun e => by cases e)).mono ?_
  rintro e w1 ⟨v1, rfl, o1, b1⟩
  rw [exG_make.2] at o1
  rw [show makeE 3 2 exG.length = 0 from exG_make.1]
  obtain ⟨g, c, rfl, hc⟩ := o1.form (by rw [exG_at.2.2]; omega)
  have B1 := Lib.hid (below_then (below1 w _) b1)
  have W1 := Lib.hid (HW.out.trans (B1.out.mono HW.out.size))
  have O1 := Lib.hid o1
  have hcm : c ≤ maxLen := by obtain ⟨a2, c2, e2, -, -, -, h2⟩ := o1.shape; injection e2 with _ _ e3; subst e3; exact h2
  rw [exG_at.2.2] at hc ⊢
  clear b1 o1
  go_wp2_with fail
  refine (HP.out.opens 3 _ 4096 c _ _ W1.out (by unfold okInt; omega) O1.out.inB exG_byte exG_at.2.2 hc hcm (fun e => by cases e)).mono ?_
  rintro e w2 ⟨v2, rfl, o2, b2⟩
  rw [exG_open.2.2.1] at o2
  rw [exG_open.2.1, exG_open.1]
  obtain ⟨g2, c2, rfl, hc2⟩ := o2.form (by decide)
  have O2 := Lib.hid (And.intro (O1.out.then_ b2) o2)
  have B2 := Lib.hid (below_then B1.out b2)
  have W2 := Lib.hid (HW.out.trans (B2.out.mono HW.out.size))
  clear b2 o2 O1
  go_wp2_with fail
  refine (HP.out.opens 4 _ 4096 c _ _ W2.out (by unfold okInt; omega) O2.out.1.inB exG_byte exG_at.2.2 hc hcm (fun e => by cases e)).mono ?_
  rintro e w3 ⟨v3, rfl, o3, b3⟩
  rw [exG_open.2.2.2, show openK (pageL 3 2 exG) 4 = 0 by unfold openK; rw [exG_open.2.2.2]; rfl]
  have O3 := Lib.hid (And.intro (O2.out.1.then_ b3) (O2.out.2.then_ b3))
  have B3 := Lib.hid (below_then B2.out b3)
  have W3 := Lib.hid (HW.out.trans (B3.out.mono HW.out.size))
  clear b3 o3 O2
  go_wp2_with fail
  refine (HP.out.opens 3 none 0 0 [] _ W3.out (by unfold okInt; omega) (InB.nil _ _) isB.nil rfl (Nat.le_refl _) (by decide) (fun _ => ⟨rfl, rfl⟩)).mono ?_
  rintro e w4 ⟨v4, rfl, o4, b4⟩
  rw [exG_nil, show openK [] 3 = 0 by unfold openK; rw [exG_nil]; rfl]
  have O4 := Lib.hid (And.intro (O3.out.1.then_ b4) (O3.out.2.then_ b4))
  have B4 := Lib.hid (below_then B3.out b4)
  clear b4 o4 O3
  obtain ⟨y1, -⟩ := O4.out.1.at_ exG_at.1
  obtain ⟨y2, -⟩ := O4.out.1.at_ exG_at.2.1
  obtain ⟨y3, -⟩ := O4.out.2.at_ (j := 1) (x := 8) rfl
  go_wp2_with fail
  go_ret
  exact ⟨rfl, B4.out⟩
end Go.Proofs.YtlpnhfceblbllaaDoor
