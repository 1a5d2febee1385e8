/- The contracts of what Right calls for a value by itself: no statement is proved here. -/
import Derived.Test.YtcpbdmgkeljkgaaGreatDoorSize
import Derived.Test.YtcpbdmgkeljkgaaGreatDoorShelf
import Derived.Maps.OwnSet
import Derived.Maps.Views
namespace Go.Proofs.YtcpbdmgkeljkgaaGreatDoor
open Go.RowKit
set_option maxRecDepth 100000

/-- The tables of package utf8, as the program's text lays them. -/
def Tabs (w : World) : Prop := Lib.Utf8Tabs (Tryz.laysValid_ren.g 3) (Tryz.laysValid_ren.g 4) w
theorem Tabs.then_ {w w' : World} (h : Tabs w) (hb : Below w.heap.size w w') : Tabs w' :=
  ⟨fun c hc => (hb.cell (cell_lt (h.1 c hc))).trans (h.1 c hc), fun i hi => ⟨(hb.cell (cell_lt (h.2 i hi).1)).trans (h.2 i hi).1, (hb.cell (cell_lt (h.2 i hi).2)).trans (h.2 i hi).2⟩⟩

theorem valid_any (s : ByteArray) (w : World) (hs : s.size ≤ 9223372036854775807) (hT : Tabs w) : Calls Tryz.prog 39 #[.string s] w fun e w' => e = .returned (.bool (Lib.validD s.data.toList)) ∧ Below w.heap.size w w' :=
  Any.utf8_ValidString Tryz.laysValid s w hs hT
theorem indexByte_any (s : ByteArray) (w : World) : Calls Tryz.prog 52 #[.string s, .int .u8 0] w fun e w' => e = .returned (.int .i64 (Lib.indexByte s.data.toList 0)) ∧ w = w' :=
  (Any.strings_IndexByte Tryz.laysIndexByte s 0 w).mono fun _ _ h => ⟨h.1, h.2.symm⟩

theorem InL.inn {w : World} {a : Option Addr} {l : List T} (h : InL w a l) {i : Nat} {x : T} (hi : l[i]? = some x) : x.In w := (h.elem hi).choose_spec.choose_spec.2.2
theorem InD.inn {w : World} {a : Option Addr} {l : List (ByteArray × T)} (h : InD w a l) {i : Nat} {x : ByteArray × T} (hi : l[i]? = some x) : x.2.In w := (h.elem hi).choose_spec.choose_spec.2.2
/-- May a name be? -/
def nameOk (s : ByteArray) : Bool := !(s.toList == []) && (decide (s.size ≤ 100) && (Lib.validD s.data.toList && decide (Lib.indexByte s.data.toList 0 < 0)))

theorem rightName_any (s : ByteArray) (w : World) (hs : s.size ≤ 140737488351232) (hT : Tabs w) : Calls Tryz.prog 40 #[.string s] w fun e w' => e = .returned (.bool (nameOk s)) ∧ Below w.heap.size w w' := by
  unfold nameOk
  have HV := fun w h => valid_any s w (by omega) h
  have HI := fun w => indexByte_any s w
  replace HV := Lib.hid HV
  replace HI := Lib.hid HI
  go_enter Tryz.func40, Tryz.ntmps40
  go_wp2_with (first | (go_at_call 39; refine (HV.out _ hT).mono ?_; rintro e w1 ⟨rfl, hb1⟩) | (go_at_call 52; refine (HI.out _).mono ?_; rintro e w2 ⟨rfl, rfl⟩))
  all_goals (go_ret; refine ⟨ret_bool ?_, by first | exact hb1 | exact Below.refl _ _⟩)
  · simp [‹s.toList = []›]
  · have h : s.size ≤ 100 := by omega
    simp [‹Lib.validD s.data.toList = true›, h]
  · simp [‹¬Lib.validD s.data.toList = true›]
  · have h : ¬ s.size ≤ 100 := by omega
    simp [h]

/-- Is all zero that a value's kind does not use? -/
def aloneV : V → Bool
  | .mk k n s l d => (decide (k = 3 ∨ k = 9 ∨ k = 10) || n == 0) && ((decide (k = 4 ∨ k = 7 ∨ k = 8) || s.toList == []) && ((decide (k = 6) || l.length == 0) && (decide (k = 5) || d.length == 0)))
/-- Is the kind one, and is what it uses as it must be? -/
def fitsV : V → Bool
  | .mk k n s _ _ => if k = 4 then Lib.validD s.data.toList else if k = 8 then s.size == 12 else if k = 9 then n == 0 || n == 1 else decide (1 ≤ k) && decide (k ≤ 11)

theorem len_beq (n : Nat) : ((n : Int) == 0) = (n == 0) := by rw [Bool.eq_iff_iff]; simp
set_option maxHeartbeats 8000000 in
theorem alone_any (t : T) (ok : t.ok) (w : World) : Calls Tryz.prog 28 #[t.arg] w fun e w' => e = .returned (.bool (aloneV t.val)) ∧ Below w.heap.size w w' := by
  obtain ⟨kx, nx, sx, lax, lcx, lx, dax, dcx, dx⟩ := t
  show Calls _ _ #[.agg #[.int .i64 kx, .int .i64 nx, .string sx, .slice lax lx.length lcx, .slice dax dx.length dcx]] _ _
  obtain ⟨-, -, -, -, hs, hl1, hl2, hd1, hd2, okl, okd⟩ := ok.parts
  clear okl okd ok
  by_cases k3 : kx = 3
  · subst k3
    go_enter Tryz.func28, Tryz.ntmps28
    go_wp2_with fail
    all_goals (go_ret; refine ⟨ret_bool ?_, below1 _ _⟩; go_light; simp_all [T.val_mk, aloneV, len_beq])
  by_cases k9 : kx = 9
  · subst k9
    go_enter Tryz.func28, Tryz.ntmps28
    go_wp2_with fail
    all_goals (go_ret; refine ⟨ret_bool ?_, below1 _ _⟩; go_light; simp_all [T.val_mk, aloneV, len_beq])
  by_cases k10 : kx = 10
  · subst k10
    go_enter Tryz.func28, Tryz.ntmps28
    go_wp2_with fail
    all_goals (go_ret; refine ⟨ret_bool ?_, below1 _ _⟩; go_light; simp_all [T.val_mk, aloneV, len_beq])
  by_cases k4 : kx = 4
  · subst k4
    go_enter Tryz.func28, Tryz.ntmps28
    go_wp2_with fail
    all_goals (go_ret; refine ⟨ret_bool ?_, below1 _ _⟩; go_light; simp_all [T.val_mk, aloneV, len_beq])
  by_cases k7 : kx = 7
  · subst k7
    go_enter Tryz.func28, Tryz.ntmps28
    go_wp2_with fail
    all_goals (go_ret; refine ⟨ret_bool ?_, below1 _ _⟩; go_light; simp_all [T.val_mk, aloneV, len_beq])
  by_cases k8 : kx = 8
  · subst k8
    go_enter Tryz.func28, Tryz.ntmps28
    go_wp2_with fail
    all_goals (go_ret; refine ⟨ret_bool ?_, below1 _ _⟩; go_light; simp_all [T.val_mk, aloneV, len_beq])
  by_cases k6 : kx = 6
  · subst k6
    go_enter Tryz.func28, Tryz.ntmps28
    go_wp2_with fail
    all_goals (go_ret; refine ⟨ret_bool ?_, below1 _ _⟩; go_light; simp_all [T.val_mk, aloneV, len_beq])
  by_cases k5 : kx = 5
  · subst k5
    go_enter Tryz.func28, Tryz.ntmps28
    go_wp2_with fail
    all_goals (go_ret; refine ⟨ret_bool ?_, below1 _ _⟩; go_light; simp_all [T.val_mk, aloneV])
  have b3 : ((kx : Int) == 3) = false := by simp [k3]
  have b4 : ((kx : Int) == 4) = false := by simp [k4]
  have b5 : ((kx : Int) == 5) = false := by simp [k5]
  have b6 : ((kx : Int) == 6) = false := by simp [k6]
  have b7 : ((kx : Int) == 7) = false := by simp [k7]
  have b8 : ((kx : Int) == 8) = false := by simp [k8]
  have b9 : ((kx : Int) == 9) = false := by simp [k9]
  have b10 : ((kx : Int) == 10) = false := by simp [k10]
  have K := Lib.hid (And.intro k3 (And.intro k4 (And.intro k5 (And.intro k6 (And.intro k7 (And.intro k8 (And.intro k9 k10)))))))
  clear k3 k4 k5 k6 k7 k8 k9 k10
  go_enter Tryz.func28, Tryz.ntmps28
  go_wp2_with fail
  all_goals (go_ret; refine ⟨ret_bool ?_, below1 _ _⟩; obtain ⟨k3, k4, k5, k6, k7, k8, k9, k10⟩ := K.out; clear K; go_light; simp_all [T.val_mk, aloneV, len_beq])
end Go.Proofs.YtcpbdmgkeljkgaaGreatDoor
