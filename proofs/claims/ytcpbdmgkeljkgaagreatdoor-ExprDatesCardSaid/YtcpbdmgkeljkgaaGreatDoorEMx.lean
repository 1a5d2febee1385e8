/- The greatest of numbers. No statement is proved here. -/
import Derived.Test.YtcpbdmgkeljkgaaGreatDoorEEa
namespace Go.Proofs.YtcpbdmgkeljkgaaGreatDoor
open Go.RowKit
set_option maxRecDepth 100000

/-- The greatest of the first numbers, from the front. -/
def mxK (ns : List Int) : Nat → Int
  | 0 => ns.getD 0 0
  | k + 1 => if mxK ns k < ns.getD (k + 1) 0 then ns.getD (k + 1) 0 else mxK ns k
theorem mxK_in {ns : List Int} (h : ∀ n ∈ ns, in64 n) : ∀ k : Nat, k < ns.length → in64 (mxK ns k) := by
  intro k
  induction k with
  | zero => intro hk; rw [mxK, List.getD_eq_getElem?_getD, List.getElem?_eq_getElem hk]; exact h _ (List.getElem_mem _)
  | succ k ih =>
    intro hk
    rw [mxK, List.getD_eq_getElem?_getD, List.getElem?_eq_getElem hk]
    split
    · exact h _ (List.getElem_mem _)
    · exact ih (by omega)
theorem cmp_ints (a b : Int) : cmpV (intT a).val (intT b).val = cmpI a b := by
  unfold intT; rw [T.val_mk, T.val_mk, cmpV]; simp
theorem cmpI_one (a b : Int) : (cmpI a b == 1) = decide (b < a) := by
  unfold cmpI
  split
  · rw [decide_eq_false (by omega)]; rfl
  · split
    · rename_i h; rw [decide_eq_true h]; rfl
    · rename_i h; rw [decide_eq_false h]; rfl
theorem noth_int (n : Int) (w : World) : Calls Tryz.prog 187 #[scal 3 n] w fun e w' => e = .returned (.bool false) ∧ Below w.heap.size w w' :=
  (nothing_any (intT n) w).mono fun e w' ⟨h1, h2⟩ => ⟨by rw [h1, intT_noth], h2⟩
theorem noth_null (w : World) : Calls Tryz.prog 187 #[scal 2 0] w fun e w' => e = .returned (.bool true) ∧ Below w.heap.size w w' :=
  (nothing_any (.mk 2 0 ⟨#[]⟩ none 0 [] none 0 []) w).mono fun e w' ⟨h1, h2⟩ => ⟨by rw [h1]; simp [nothT], h2⟩
theorem cmp_two {a b : Int} (ha : in64 a) (hb : in64 b) (w : World) : Calls Tryz.prog 142 #[scal 3 a, scal 3 b] w fun e w' => e = .returned (.int .i64 (cmpI a b)) ∧ Below w.heap.size w w' :=
  (compare_any (intT a) (intT b) w (intT_ok ha) (intT_ok hb) (intT_in _ _) (intT_in _ _)).mono fun e w' ⟨h1, h2⟩ => ⟨by rw [h1, cmp_ints], h2⟩
set_option maxHeartbeats 4000000 in
theorem outermost_any (ns : List Int) (hns : ∀ n ∈ ns, in64 n) (h2 : 2 ≤ ns.length) (h3 : ns.length ≤ 1000) (la : Option Addr) (lc : Nat) (w : World) (hin : InL w la (ns.map intT)) :
    Calls Tryz.prog 146 #[.slice la ns.length lc, .int .i64 1] w fun e w' => e = .returned (scal 3 (mxK ns (ns.length - 1))) ∧ Below w.heap.size w w' := by
  go_enter Tryz.func146, Tryz.ntmps146
  go_wp2_with fail
  refine (null_any _).mono ?_
  rintro e w1 ⟨rfl, b1⟩
  dsimp only [scal]
  have hs := b1.size
  rw [World.size_alloc] at hs
  have HB := Lib.hid (And.intro (row_then (row_then (heap_alloc_new w (box 0 0)) b1) (below1 w1 (box 2 0))) (And.intro (heap_alloc_new w1 (box 2 0)) (And.intro (below_then (below_then (below1 w (box 0 0)) b1) (below1 w1 (box 2 0))) (And.intro (hin.then_ (below_then (below_then (below1 w (box 0 0)) b1) (below1 w1 (box 2 0)))) (fun p hp => World.block_lt_of_cell? w p.1 (hin p hp))))))
  unfold box at HB
  have hwO : w.heap.size ≠ w1.heap.size := by omega
  clear b1 hin
  go_wp2_with fail
  generalize w1.alloc _ = U at HB ⊢
  generalize hO : w1.heap.size = O at HB hs hwO ⊢
  clear hO
  have HI : Hid (∀ W', Only [O] U W' → InL W' la (ns.map intT)) := Lib.hid (fun W' ho p hp => cell_onlyG (HB.out.2.2.2.1 p hp) ho (by have := HB.out.2.2.2.2 p hp; omega))
  have HN := Lib.hid hns
  clear hns
  go_loopw [25] (fun i W => ∃ k : Nat, k ≤ ns.length ∧ i = .int .i64 k ∧ Only [O] U W ∧ W.heap[O]? = some (if k = 0 then box 2 0 else box 3 (mxK ns (k - 1)))) (fun i _ => ns.length - (intOf i).toNat)
  case atStart => exact ⟨0, by omega, rfl, Only.refl _ _, by rw [if_pos rfl]; exact HB.out.2.1⟩
  case round =>
    obtain ⟨k, hk, rfl, ho, hrow⟩ := hrel
    have HO := Lib.hid (And.intro ho hrow)
    by_cases h1 : k < ns.length
    · obtain ⟨b, o, kx, nx, sx, lax, lcx, lx, dax, dcx, dx, rfl, hx, hix, x0, x1, x2, x3, x4⟩ := (HI.out wr ho).five (i := k) (by simpa using h1)
      obtain ⟨n, hn⟩ : ∃ n, ns[k]? = some n := ⟨_, List.getElem?_eq_getElem h1⟩
      have hn64 := HN.out n (List.mem_of_getElem? hn)
      rw [List.getElem?_map, hn, Option.map_some] at hx
      injection hx with hx
      simp only [intT, T.mk.injEq] at hx
      obtain ⟨rfl, rfl, rfl, rfl, rfl, rfl, rfl, rfl, rfl⟩ := hx
      simp only [List.length_nil] at x3 x4
      clear hix
      have HN0 := Lib.hid (show ∀ h : k = 0, ns.getD 0 0 = n from fun h => by subst h; rw [List.getD_eq_getElem?_getD, hn]; rfl)
      have HNI := Lib.hid (fun w => noth_int n w)
      unfold scal at HNI
      by_cases hk0 : k = 0
      · rw [if_pos hk0] at hrow
        have HK0 := Lib.hid hk0
        clear hk0
        have HNN := Lib.hid (fun w => noth_null w)
        unfold scal at HNN
        have cO := row_cells hrow
        have fO := rowf hrow
        unfold box at cO fO
        have HW := Lib.hid (And.intro (row_then hrow (below1 wr (box 3 n))) (And.intro (heap_alloc_new wr (box 3 n)) (And.intro (ho.alloc (box 3 n)) (lt_of_block hrow))))
        unfold box at HW
        clear hrow ho
        have hOw := HW.out.2.2.2
        go_wp2_with fail
        refine (HNI.out _).mono ?_
        rintro e w2 ⟨rfl, b2⟩
        have X2 := row_then HW.out.1 b2
        have HX2 := Lib.hid (And.intro X2 (And.intro (row_then HW.out.2.1 b2) (HW.out.2.2.1.trans (Only.of_below b2))))
        have cO2 := row_cells X2
        have fO2 := rowf X2
        have hs2 := b2.size
        rw [World.size_alloc] at hs2
        clear cO fO b2 X2
        go_wp2_with fail
        refine (HNN.out _).mono ?_
        rintro e w3 ⟨rfl, b3⟩
        have X3 := row_then HX2.out.1 b3
        have HX3 := Lib.hid (And.intro X3 (HX2.out.2.2.trans (Only.of_below b3)))
        have cV := row_cells (row_then HX2.out.2.1 b3)
        have cO3 := row_cells X3
        have fO3 := rowf X3
        clear cO2 fO2 b3 X3
        go_wp2_with fail
        generalize hV : World.setCell _ _ _ = V'
        obtain ⟨t1, t2⟩ := put5V HX3.out.1 hV
        have HF := Lib.hid (And.intro (HX3.out.2.then_ t1 (fun i hi => .inl hi)) t2)
        clear hV t1 t2 cV cO3 fO3
        go_roundw
        case rel => exact ⟨k + 1, by omega, by go_num, HF.out.1, by rw [HF.out.2, if_neg (by omega)]; rw [HK0.out, Nat.zero_add, Nat.sub_self, mxK, HN0.out HK0.out]; rfl⟩
        case measure => simp [intOf]; omega
      · rw [if_neg hk0] at hrow
        obtain ⟨m, hm⟩ : ∃ m, mxK ns (k - 1) = m := ⟨_, rfl⟩
        have hm64 : in64 m := hm ▸ mxK_in HN.out (k - 1) (by omega)
        have hms : mxK ns k = if m < n then n else m := by
          obtain ⟨j, rfl⟩ : ∃ j, k = j + 1 := ⟨k - 1, by omega⟩
          rw [mxK, show j = j + 1 - 1 by omega, hm, List.getD_eq_getElem?_getD, show j + 1 - 1 + 1 = j + 1 by omega, hn]
          rfl
        rw [hm] at hrow
        have HMS := Lib.hid (And.intro hms hk0)
        have HNN := Lib.hid (fun w => noth_int m w)
        have HCC := Lib.hid (fun w => cmp_two hn64 hm64 w)
        unfold scal at HNN HCC
        have hcb := cmpI_one n m
        have cO := row_cells hrow
        have fO := rowf hrow
        unfold box at cO fO
        have HW := Lib.hid (And.intro (row_then hrow (below1 wr (box 3 n))) (And.intro (heap_alloc_new wr (box 3 n)) (And.intro (ho.alloc (box 3 n)) (lt_of_block hrow))))
        unfold box at HW
        clear hrow ho hms hm hk0
        have hOw := HW.out.2.2.2
        go_wp2_with fail
        refine (HNI.out _).mono ?_
        rintro e w2 ⟨rfl, b2⟩
        have X2 := row_then HW.out.1 b2
        have HX2 := Lib.hid (And.intro X2 (And.intro (row_then HW.out.2.1 b2) (HW.out.2.2.1.trans (Only.of_below b2))))
        have cO2 := row_cells X2
        have fO2 := rowf X2
        clear cO fO b2 X2
        go_wp2_with fail
        refine (HNN.out _).mono ?_
        rintro e w3 ⟨rfl, b3⟩
        have X3 := row_then HX2.out.1 b3
        have X3V := row_then HX2.out.2.1 b3
        have HX3 := Lib.hid (And.intro X3 (And.intro X3V (HX2.out.2.2.trans (Only.of_below b3))))
        have cV := row_cells X3V
        have cO3 := row_cells X3
        have fO3 := rowf X3
        clear cO2 fO2 b3 X3 X3V
        go_wp2_with fail
        refine (HCC.out _).mono ?_
        rintro e w4 ⟨rfl, b4⟩
        have X4 := row_then HX3.out.1 b4
        have X4V := row_then HX3.out.2.1 b4
        have HX4 := Lib.hid (And.intro X4 (HX3.out.2.2.trans (Only.of_below b4)))
        have cV4 := row_cells X4V
        have cO4 := row_cells X4
        have fO4 := rowf X4
        clear cV cO3 fO3 b4 X4 X4V
        by_cases hlt : m < n
        · rw [decide_eq_true hlt] at hcb
          have hmn := HMS.out.1
          rw [if_pos hlt] at hmn
          have HMN := Lib.hid hmn
          clear hlt hmn
          go_wp2_with fail
          generalize hV : World.setCell _ _ _ = V'
          obtain ⟨t1, t2⟩ := put5V HX4.out.1 hV
          have HF := Lib.hid (And.intro (HX4.out.2.then_ t1 (fun i hi => .inl hi)) t2)
          clear hV t1 t2 cV4 cO4 fO4
          go_roundw
          case rel => exact ⟨k + 1, by omega, by go_num, HF.out.1, by rw [HF.out.2, if_neg (by omega), Nat.add_sub_cancel, HMN.out]; rfl⟩
          case measure => simp [intOf]; omega
        · rw [decide_eq_false hlt] at hcb
          have hmn := HMS.out.1
          rw [if_neg hlt] at hmn
          have HMN := Lib.hid hmn
          clear hlt hmn
          go_wp2_with fail
          go_roundw
          case rel => exact ⟨k + 1, by omega, by go_num, HX4.out.2, by rw [if_neg (by omega), Nat.add_sub_cancel, HMN.out]; exact HX4.out.1⟩
          case measure => simp [intOf]; omega
    · have hkl : k = ns.length := by omega
      rw [if_neg (by omega), hkl] at hrow
      have XR := keep_row ho HB.out.1 (by simp; omega)
      have cO := row_cells hrow
      have cR := row_cells XR
      have fR := rowf XR
      have HF := Lib.hid (And.intro XR ((Only.of_below (S := []) HB.out.2.2.1).then_ ho (fun i hi => .inr (by simp at hi; omega))).below)
      unfold box at cO
      clear hrow ho XR
      go_wp2_with fail
      generalize hV : World.setCell _ _ _ = V'
      obtain ⟨t1, t2⟩ := put5V HF.out.1 hV
      have q := row_cells t2
      have HR := Lib.hid ((Only.of_below (S := []) HF.out.2).then_ t1 (fun x hx => .inr (by simp at hx; omega))).below
      clear hV t1 t2 cO cR fR
      simp [bodyPost, results, Tryz.results146, go_sem, q]
      exact ⟨by simp [scal], HR.out⟩
/-- Nodes that come to numbers. -/
def NumsN (l : List Nod) (ns : List Int) : Prop := l.length = ns.length ∧ ∀ (i : Nat) (a : Nod) (n : Int), l[i]? = some a → ns[i]? = some n → ∀ r, a.R r → r = intT n
theorem nums_rs {l : List Nod} {ns : List Int} (h : NumsN l ns) {rs : List T} (hl : rs.length = l.length) (hR : ∀ (i : Nat) (r : T) (a : Nod), rs[i]? = some r → l[i]? = some a → a.R r) : rs = ns.map intT := by
  apply List.ext_getElem?
  intro i
  rw [List.getElem?_map]
  have h1 := h.1
  rcases Nat.lt_or_ge i rs.length with hi | hi
  · have e1 := List.getElem?_eq_getElem hi
    have e2 := List.getElem?_eq_getElem (show i < l.length by omega)
    have e3 := List.getElem?_eq_getElem (show i < ns.length by omega)
    rw [e1, e3, Option.map_some, h.2 i _ _ e2 e3 _ (hR i _ _ e1 e2)]
  · rw [List.getElem?_eq_none hi, List.getElem?_eq_none (by omega)]
    rfl
theorem greatest_any (ns : List Int) (hns : ∀ n ∈ ns, in64 n) (h2 : 2 ≤ ns.length) (h3 : ns.length ≤ 1000) (la : Option Addr) (lc : Nat) (w : World) (hin : InL w la (ns.map intT)) :
    Calls Tryz.prog 97 #[.slice la ns.length lc] w fun e w' => e = .returned (.tuple #[scal 3 (mxK ns (ns.length - 1)), .int .i64 0]) ∧ Below w.heap.size w w' := by
  have HO := Lib.hid (fun w' hb => outermost_any ns hns h2 h3 la lc w' (hin.then_ hb))
  unfold scal at HO
  have HB := Lib.hid (And.intro (heap_alloc_new w (box 0 0)) (below1 w (box 0 0)))
  unfold box at HB
  clear hin hns
  go_enter Tryz.func97, Tryz.ntmps97
  go_wp2_with fail
  refine (HO.out _ (below1 _ _)).mono ?_
  rintro e w1 ⟨rfl, b1⟩
  have X := row_then HB.out.1 b1
  have cX := row_cells X
  have fX := rowf X
  have HX := Lib.hid (And.intro X (below_then HB.out.2 b1))
  clear X b1
  go_wp2_with fail
  generalize hV : World.setCell _ _ _ = V'
  obtain ⟨t1, t2⟩ := put5V HX.out.1 hV
  have q := row_cells t2
  have HR := Lib.hid ((Only.of_below (S := []) HX.out.2).then_ t1 (fun x hx => .inr (by simp at hx; omega))).below
  clear hV t1 t2 cX fX
  simp [bodyPost, results, Tryz.results97, go_sem, q]
  exact ⟨by simp [scal], HR.out⟩
theorem max_made {W : World} {l : List Nod} {ns : List Int} (hns : ∀ n ∈ ns, in64 n) (h2 : 2 ≤ ns.length) (h3 : ns.length ≤ 1000) (hl : NumsN l ns) : MadeTo' W 97 #[] l (fun r => r = intT (mxK ns (ns.length - 1))) 0 := by
  intro w B gr rs hb hlen hR hok hin hrow
  have e := nums_rs hl hlen hR
  subst e
  rw [hl.1]
  refine (greatest_any ns hns h2 h3 _ _ w hin).mono ?_
  rintro e w' ⟨rfl, b⟩
  exact ⟨_, rfl, rfl, intT_ok (mxK_in hns _ (by omega)), intT_in _ _, by rw [intT_places]; simp, b⟩
end Go.Proofs.YtcpbdmgkeljkgaaGreatDoor
