/- slices.Chunk of a row of bytes: what it tells. No statement is proved here. -/
import Derived.Test.YtophhnolnlbecaaDoorQ19
import Derived.Test.YtophhnolnlbecaaDoorQ22
import Derived.Test.YtophhnolnlbecaaDoorQ27
import Derived.RegionIn
import Derived.Lib.OthersKept
namespace Go.Proofs.YtophhnolnlbecaaDoor
open Go.RowKit
set_option maxRecDepth 100000

def adAt (a : Option Addr) (k : Nat) : Option Addr := a.map fun ad => ⟨ad.block, ad.off + k, ad.spot⟩
/-- A part in the middle of a row of bytes, with no room behind it. -/
theorem run_slM (a : Option Addr) (n c i j : Nat) (lo hi mx : Int) (hlo : lo = i) (hhi : hi = j) (hmx : mx = j) (hij : i < j) (hjn : j ≤ n) (hc : n ≤ c) (hpl : ∀ ad, a = some ad → ad.spot = none) (hne : a ≠ none) (w : World) :
    (Instr.slice 22 (.slice a n c) (some (.int .i64 lo)) (some (.int .i64 hi)) (some (.int .i64 mx))).run Tryd.prog w = .ok (.slice (adAt a i) (j - i) (j - i)) w := by
  subst hlo hhi hmx
  cases a with
  | none => exact absurd rfl hne
  | some ad =>
    obtain ⟨b, o, sp⟩ := ad
    have := hpl _ rfl
    subst this
    rw [run_slice_lhm w 22 _ _ _ (by kernel_rfl) .i64 .i64 .i64 _ _ _ (by omega) (by omega) (by omega) (by omega)]
    rw [show sizeOf (Tryd.prog.elem 22) = sizeOf 5 from rfl]
    have e1 : (j : Int).toNat = j := by omega
    have e2 : (i : Int).toNat = i := by omega
    have e3 : ¬ j - i = 0 := by omega
    have e4 : ¬ j ≤ i := by omega
    have e5 : ¬ j = i := by omega
    simp [go_sem, sliced, e1, e2, e3, e4, e5, adAt]
theorem adAt_in {w : World} {a : Option Addr} {l : List Int} (h : InB w a l) (k n : Nat) : InB w (adAt a k) ((l.drop k).take n) := fun i x hx => by
  rw [List.getElem?_take] at hx
  split at hx
  · rw [List.getElem?_drop] at hx
    obtain ⟨b, o, e, hc⟩ := h _ x hx
    subst e
    exact ⟨b, o + k, rfl, by rw [Nat.add_assoc]; exact hc⟩
  · cases hx
theorem chunk_any (a : Option Addr) (n c : Nat) (sz : Nat) (h1 : 1 ≤ sz) (w : World) : Calls Tryd.prog 50 #[.slice a n c, .int .i64 (sz : Int)] w fun e w' => e = .returned (.func (.func 71) #[] #[.pointer (some ⟨w.heap.size, 0, none⟩), .pointer (some ⟨w.heap.size + 1, 0, none⟩)]) ∧ w' = (w.alloc (.cells #[.slice a n c] 22)).alloc (.cells #[.int .i64 (sz : Int)] 3) := by
  have q : ¬ ((sz : Int) < 1) := by omega
  have c1 := (row_cells (heap_alloc_at (w.alloc (.cells #[.slice a n c] 22)) (.cells #[.int .i64 (sz : Int)] 3) (w.heap.size + 1) (by simp))) 0
  go_enter Tryd.func50, Tryd.ntmps50
  go_wp2_with fail
  go_ret
  exact ⟨rfl, rfl⟩
/-- The two boxes. -/
def OkC (sb nb : Nat) (a : Option Addr) (n c sz : Nat) (A : World) : Prop := A.heap[sb]? = some (.cells #[.slice a n c] 22 (0, 0)) ∧ A.heap[nb]? = some (.cells #[.int .i64 (sz : Int)] 3 (0, 0))
def encC (a : Option Addr) (n sz i : Nat) : Array Value := #[.slice (adAt a (sz * i)) (min sz (n - sz * i)) (min sz (n - sz * i))]
theorem yield_roundE {m m' l : Nat} {P : Program} {fn : FuncId} {tmps : Array Value} {assign body : Code} {W : World} {R : Ending → World → Prop} (h : RoundIn Fence.wide m P l fn tmps assign body W R) : RoundIn Fence.wide m' P l fn tmps assign body W R := ⟨h.1, fun c cs _ => h.2 c cs (room_wide _)⟩
set_option maxHeartbeats 4000000 in
theorem chunk_each (sb nb : Nat) (a : Option Addr) (n c sz : Nat) (h1 : 1 ≤ sz) (hsz : sz ≤ 4096) (hc : n ≤ c) (hn : n ≤ 140737488355328) (hpl : 1 ≤ n → ∀ ad, a = some ad → ad.spot = none) (hnil : a = none → c = 0) :
    EachT Tryd.prog 71 #[.pointer (some ⟨sb, 0, none⟩), .pointer (some ⟨nb, 0, none⟩)] (encC a n sz) (cuts sz n) (OkC sb nb a n c sz) := by
  intro l J Jx W hOk hDr hDx hY h0
  show Calls _ _ #[.func (.yield l) #[] #[], .pointer (some ⟨sb, 0, none⟩), .pointer (some ⟨nb, 0, none⟩)] _ _
  refine (callsIn_wide (n := 5)).1 ?_
  refine callsIn_of_wp Tryd.func71 rfl trivial ?_ rfl
  simp only [Tryd.ntmps71, List.size_toArray, List.length_cons, List.length_nil, Nat.reduceAdd, Nat.reduceSub, Array.replicate_succ, Array.replicate_zero, List.push_toArray, List.append_toArray, List.nil_append, List.cons_append]
  have HOk := Lib.hid hOk
  have HDr := Lib.hid hDr
  have HDx := Lib.hid hDx
  have HY := Lib.hid hY
  have HPl := Lib.hid (And.intro hpl hnil)
  clear hOk hDr hDx hY hpl hnil
  gi_wp2
  gi_loopw [4] (fun p wr => ∃ i m : Nat, p = .int .i64 (m : Int) ∧ m ≤ n + sz ∧ Hid (m = sz * i ∧ i ≤ cuts sz n ∧ J i wr)) (fun p _ => n + sz - (intOf p).toNat)
  case atStart => exact ⟨0, 0, rfl, by omega, Lib.hid ⟨by simp, Nat.zero_le _, h0⟩⟩
  case round =>
    obtain ⟨i, m, rfl, hm, HJ⟩ := hrel
    obtain ⟨k1, k2⟩ := HOk.out _ _ HJ.out.2.2
    have c1 := row_cells k1 0
    have c2 := row_cells k2 0
    clear k1 k2
    by_cases hlt : m < n
    · have HIN := Lib.hid (show i < cuts sz n from (cuts_lt (by omega)).2 (by rw [← HJ.out.1]; exact hlt))
      have hne : a ≠ none := fun h => by have := HPl.out.2 h; omega
      obtain ⟨a2, hs0, -, -⟩ := run_slL a n c m (m : Int) rfl (by omega) hc HPl.out.2 (HPl.out.1 (by omega))
      have HDJ := Lib.hid (HDr.out _ _ 1 HJ.out.2.2)
      have hY := HY.out i wr.drew HIN.out HDJ.out
      unfold encC at hY
      rw [← HJ.out.1] at hY
      obtain ⟨fn, tmps, assign, body, hy, hRd⟩ := hY
      have hRd := Lib.hid (fun m : Nat => yield_roundE (m' := m) hRd)
      have HNX := Lib.hid (show m + sz = sz * (i + 1) by rw [HJ.out.1, Nat.mul_add, Nat.mul_one])
      by_cases hmn : sz ≤ n - m
      · have hs1 := fun w => run_slM a n c m (m + sz) (m : Int) ((m : Int) + (sz : Int)) ((m : Int) + (sz : Int)) rfl (by omega) (by omega) (by omega) (by omega) hc (HPl.out.1 (by omega)) hne w
        rw [show m + sz - m = sz by omega] at hs1
        rw [Nat.min_eq_left hmn] at hy
        have hmin : min (sz : Int) ((n - m : Nat) : Int) = (sz : Int) := by omega
        clear HDJ
        gi_wp2
        gi_region
        all_goals gi_wp2
        refine (hRd.out _).mono ?_
        rintro e B (⟨rfl, jB⟩ | ⟨rfl, jxB⟩)
        · have JB := Lib.hid jB
          obtain ⟨k1, k2⟩ := HOk.out _ _ jB
          have d1 := row_cells k1 0
          have d2 := row_cells k2 0
          clear k1 k2 jB
          gi_wp2
          go_roundw
          case rel => exact ⟨i + 1, m + sz, by go_num, by omega, Lib.hid ⟨HNX.out, HIN.out, JB.out⟩⟩
          case measure => simp [intOf]; omega
        · have JB := Lib.hid jxB
          clear jxB
          gi_wp2
          refine bodyPost_ret (results_none rfl _ _ _) rfl ?_
          exact ⟨⟨_, rfl⟩, .inr JB.out⟩
      · have hs1 := fun w => run_slM a n c m n (m : Int) ((m : Int) + ((n - m : Nat) : Int)) ((m : Int) + ((n - m : Nat) : Int)) rfl (by omega) (by omega) (by omega) (by omega) hc (HPl.out.1 (by omega)) hne w
        rw [Nat.min_eq_right (by omega)] at hy
        obtain ⟨r, hr⟩ : ∃ r, r = n - m := ⟨_, rfl⟩
        rw [← hr] at hs1 hs0 hy hmn
        have hrs : r < sz := by omega
        have hrb : m + r = n := by omega
        have hmin : min (sz : Int) (r : Int) = (r : Int) := by omega
        clear HDJ hr
        gi_wp2
        gi_region
        all_goals gi_wp2
        refine (hRd.out _).mono ?_
        rintro e B (⟨rfl, jB⟩ | ⟨rfl, jxB⟩)
        · have JB := Lib.hid jB
          obtain ⟨k1, k2⟩ := HOk.out _ _ jB
          have d1 := row_cells k1 0
          have d2 := row_cells k2 0
          clear k1 k2 jB
          gi_wp2
          go_roundw
          case rel => exact ⟨i + 1, m + sz, by go_num, by omega, Lib.hid ⟨HNX.out, HIN.out, JB.out⟩⟩
          case measure => simp [intOf]; omega
        · have JB := Lib.hid jxB
          clear jxB
          gi_wp2
          refine bodyPost_ret (results_none rfl _ _ _) rfl ?_
          exact ⟨⟨_, rfl⟩, .inr JB.out⟩
    · have hie : i = cuts sz n := by
        have h1 := HJ.out.2.1
        have h2 : ¬ i < cuts sz n := fun h => hlt (by rw [HJ.out.1]; exact (cuts_lt (by omega)).1 h)
        omega
      have HJ2 := Lib.hid (show J (cuts sz n) wr by rw [← hie]; exact HJ.out.2.2)
      clear hie
      gi_wp2
      go_end0
      exact ⟨⟨_, rfl⟩, .inl HJ2.out⟩
end Go.Proofs.YtophhnolnlbecaaDoor
