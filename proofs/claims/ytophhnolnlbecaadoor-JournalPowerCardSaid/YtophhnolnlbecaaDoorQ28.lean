/- slices.Chunk of a row of bytes: what it tells. The program's stream of an epoch: what sectors have of it. The program's Scan. No statement is proved here. -/
import Derived.Test.YtophhnolnlbecaaDoorQ19
import Derived.Test.YtophhnolnlbecaaDoorQ22
import Derived.Test.YtophhnolnlbecaaDoorQ27
import Derived.RegionIn
import Derived.Lib.OthersKept
import Derived.Test.YtophhnolnlbecaaDoorQ21
import Derived.Laws.MakeOwn
import Derived.RangeFuncBox
import Derived.Test.YtophhnolnlbecaaDoorQ26
namespace Go.Proofs.YtophhnolnlbecaaDoor
open Go.RowKit Go.Lib
set_option maxRecDepth 100000

def adAt (a : Option Addr) (k : Nat) : Option Addr := a.map fun ad => ⟨ad.block, ad.off + k, ad.spot⟩
/-- A part in the middle of a row of bytes, with no room behind it. -/
theorem run_slM (a : Option Addr) (n c i j : Nat) (lo hi mx : Int) (hlo : lo = i) (hhi : hi = j) (hmx : mx = j) (hij : i < j) (hjn : j ≤ n) (hc : n ≤ c) (hpl : ∀ ad, a = some ad → ad.spot = none) (hne : a ≠ none) (w : World) :
    (Instr.slice 22 (.slice a n c) (some (.int .i64 lo)) (some (.int .i64 hi)) (some (.int .i64 mx))).run Tryd.prog w = .ok (.slice (adAt a i) (j - i) (j - i)) w := by
  subst hlo hhi hmx
  cases a with
  | none => exact absurd rfl hne
  | some ad =>
    obtain ⟨b, o, sp⟩ := ad
    have := hpl _ rfl
    subst this
    rw [run_slice_lhm w 22 _ _ _ (by kernel_rfl) .i64 .i64 .i64 _ _ _ (by omega) (by omega) (by omega) (by omega)]
    rw [show sizeOf (Tryd.prog.elem 22) = sizeOf 5 from rfl]
    have e1 : (j : Int).toNat = j := by omega
    have e2 : (i : Int).toNat = i := by omega
    have e3 : ¬ j - i = 0 := by omega
    have e4 : ¬ j ≤ i := by omega
    have e5 : ¬ j = i := by omega
    simp [go_sem, sliced, e1, e2, e3, e4, e5, adAt]
theorem adAt_in {w : World} {a : Option Addr} {l : List Int} (h : InB w a l) (k n : Nat) : InB w (adAt a k) ((l.drop k).take n) := fun i x hx => by
  rw [List.getElem?_take] at hx
  split at hx
  · rw [List.getElem?_drop] at hx
    obtain ⟨b, o, e, hc⟩ := h _ x hx
    subst e
    exact ⟨b, o + k, rfl, by rw [Nat.add_assoc]; exact hc⟩
  · cases hx
theorem chunk_any (a : Option Addr) (n c : Nat) (sz : Nat) (h1 : 1 ≤ sz) (w : World) : Calls Tryd.prog 50 #[.slice a n c, .int .i64 (sz : Int)] w fun e w' => e = .returned (.func (.func 71) #[] #[.pointer (some ⟨w.heap.size, 0, none⟩), .pointer (some ⟨w.heap.size + 1, 0, none⟩)]) ∧ w' = (w.alloc (.cells #[.slice a n c] 22)).alloc (.cells #[.int .i64 (sz : Int)] 3) := by
  have q : ¬ ((sz : Int) < 1) := by omega
  have c1 := (row_cells (heap_alloc_at (w.alloc (.cells #[.slice a n c] 22)) (.cells #[.int .i64 (sz : Int)] 3) (w.heap.size + 1) (by simp))) 0
  go_enter Tryd.func50, Tryd.ntmps50
  go_wp2_with fail
  go_ret
  exact ⟨rfl, rfl⟩
/-- The two boxes. -/
def OkC (sb nb : Nat) (a : Option Addr) (n c sz : Nat) (A : World) : Prop := A.heap[sb]? = some (.cells #[.slice a n c] 22 (0, 0)) ∧ A.heap[nb]? = some (.cells #[.int .i64 (sz : Int)] 3 (0, 0))
def encC (a : Option Addr) (n sz i : Nat) : Array Value := #[.slice (adAt a (sz * i)) (min sz (n - sz * i)) (min sz (n - sz * i))]
theorem yield_roundE {m m' l : Nat} {P : Program} {fn : FuncId} {tmps : Array Value} {assign body : Code} {W : World} {R : Ending → World → Prop} (h : RoundIn Fence.wide m P l fn tmps assign body W R) : RoundIn Fence.wide m' P l fn tmps assign body W R := ⟨h.1, fun c cs _ => h.2 c cs (room_wide _)⟩
set_option maxHeartbeats 4000000 in
theorem chunk_each (sb nb : Nat) (a : Option Addr) (n c sz : Nat) (h1 : 1 ≤ sz) (hsz : sz ≤ 4096) (hc : n ≤ c) (hn : n ≤ 140737488355328) (hpl : 1 ≤ n → ∀ ad, a = some ad → ad.spot = none) (hnil : a = none → c = 0) :
    EachT Tryd.prog 71 #[.pointer (some ⟨sb, 0, none⟩), .pointer (some ⟨nb, 0, none⟩)] (encC a n sz) (cuts sz n) (OkC sb nb a n c sz) := by
  intro l J Jx W hOk hDr hDx hY h0
  show Calls _ _ #[.func (.yield l) #[] #[], .pointer (some ⟨sb, 0, none⟩), .pointer (some ⟨nb, 0, none⟩)] _ _
  refine (callsIn_wide (n := 5)).1 ?_
  refine callsIn_of_wp Tryd.func71 rfl trivial ?_ rfl
  simp only [Tryd.ntmps71, List.size_toArray, List.length_cons, List.length_nil, Nat.reduceAdd, Nat.reduceSub, Array.replicate_succ, Array.replicate_zero, List.push_toArray, List.append_toArray, List.nil_append, List.cons_append]
  have HOk := Lib.hid hOk
  have HDr := Lib.hid hDr
  have HDx := Lib.hid hDx
  have HY := Lib.hid hY
  have HPl := Lib.hid (And.intro hpl hnil)
  clear hOk hDr hDx hY hpl hnil
  gi_wp2
  gi_loopw [4] (fun p wr => ∃ i m : Nat, p = .int .i64 (m : Int) ∧ m ≤ n + sz ∧ Hid (m = sz * i ∧ i ≤ cuts sz n ∧ J i wr)) (fun p _ => n + sz - (intOf p).toNat)
  case atStart => exact ⟨0, 0, rfl, by omega, Lib.hid ⟨by simp, Nat.zero_le _, h0⟩⟩
  case round =>
    obtain ⟨i, m, rfl, hm, HJ⟩ := hrel
    obtain ⟨k1, k2⟩ := HOk.out _ _ HJ.out.2.2
    have c1 := row_cells k1 0
    have c2 := row_cells k2 0
    clear k1 k2
    by_cases hlt : m < n
    · have HIN := Lib.hid (show i < cuts sz n from (cuts_lt (by omega)).2 (by rw [← HJ.out.1]; exact hlt))
      have hne : a ≠ none := fun h => by have := HPl.out.2 h; omega
      obtain ⟨a2, hs0, -, -⟩ := run_slL a n c m (m : Int) rfl (by omega) hc HPl.out.2 (HPl.out.1 (by omega))
      have HDJ := Lib.hid (HDr.out _ _ 1 HJ.out.2.2)
      have hY := HY.out i wr.drew HIN.out HDJ.out
      unfold encC at hY
      rw [← HJ.out.1] at hY
      obtain ⟨fn, tmps, assign, body, hy, hRd⟩ := hY
      have hRd := Lib.hid (fun m : Nat => yield_roundE (m' := m) hRd)
      have HNX := Lib.hid (show m + sz = sz * (i + 1) by rw [HJ.out.1, Nat.mul_add, Nat.mul_one])
      by_cases hmn : sz ≤ n - m
      · have hs1 := fun w => run_slM a n c m (m + sz) (m : Int) ((m : Int) + (sz : Int)) ((m : Int) + (sz : Int)) rfl (by omega) (by omega) (by omega) (by omega) hc (HPl.out.1 (by omega)) hne w
        rw [show m + sz - m = sz by omega] at hs1
        rw [Nat.min_eq_left hmn] at hy
        clear HDJ
        gi_wp2
        gi_region
        all_goals gi_wp2
        refine (hRd.out _).mono ?_
        rintro e B (⟨rfl, jB⟩ | ⟨rfl, jxB⟩)
        · have JB := Lib.hid jB
          obtain ⟨k1, k2⟩ := HOk.out _ _ jB
          have d1 := row_cells k1 0
          have d2 := row_cells k2 0
          clear k1 k2 jB
          gi_wp2
          go_roundw
          case rel => exact ⟨i + 1, m + sz, by go_num, by omega, Lib.hid ⟨HNX.out, HIN.out, JB.out⟩⟩
          case measure => simp [intOf]; omega
        · have JB := Lib.hid jxB
          clear jxB
          gi_wp2
          refine bodyPost_ret (results_none rfl _ _ _) rfl ?_
          exact ⟨⟨_, rfl⟩, .inr JB.out⟩
      · have hs1 := fun w => run_slM a n c m n (m : Int) ((m : Int) + ((n - m : Nat) : Int)) ((m : Int) + ((n - m : Nat) : Int)) rfl (by omega) (by omega) (by omega) (by omega) hc (HPl.out.1 (by omega)) hne w
        rw [Nat.min_eq_right (by omega)] at hy
        obtain ⟨r, hr⟩ : ∃ r, r = n - m := ⟨_, rfl⟩
        rw [← hr] at hs1 hs0 hy hmn
        have hrs : r < sz := by omega
        have hrb : m + r = n := by omega
        clear HDJ hr
        gi_wp2
        gi_region
        all_goals gi_wp2
        refine (hRd.out _).mono ?_
        rintro e B (⟨rfl, jB⟩ | ⟨rfl, jxB⟩)
        · have JB := Lib.hid jB
          obtain ⟨k1, k2⟩ := HOk.out _ _ jB
          have d1 := row_cells k1 0
          have d2 := row_cells k2 0
          clear k1 k2 jB
          gi_wp2
          go_roundw
          case rel => exact ⟨i + 1, m + sz, by go_num, by omega, Lib.hid ⟨HNX.out, HIN.out, JB.out⟩⟩
          case measure => simp [intOf]; omega
        · have JB := Lib.hid jxB
          clear jxB
          gi_wp2
          refine bodyPost_ret (results_none rfl _ _ _) rfl ?_
          exact ⟨⟨_, rfl⟩, .inr JB.out⟩
    · have hie : i = cuts sz n := by
        have h1 := HJ.out.2.1
        have h2 : ¬ i < cuts sz n := fun h => hlt (by rw [HJ.out.1]; exact (cuts_lt (by omega)).1 h)
        omega
      have HJ2 := Lib.hid (show J (cuts sz n) wr by rw [← hie]; exact HJ.out.2.2)
      clear hie
      gi_wp2
      go_end0
      exact ⟨⟨_, rfl⟩, .inl HJ2.out⟩
end Go.Proofs.YtophhnolnlbecaaDoor
namespace Go.Proofs.YtophhnolnlbecaaDoor
open Go.RowKit Go.Lib
set_option maxRecDepth 100000
attribute [local go_sem] Oper.semAt_some

/-- A sector's part of the stream, and the first so many. -/
def partL (l : List Int) (q : Nat) : List Int := (l.drop (512 * q + 8)).take 504
def strmP (l : List Int) : Nat → List Int
  | 0 => []
  | q + 1 => strmP l q ++ partL l q
theorem strmP_len (l : List Int) : ∀ K, 512 * K ≤ l.length → (strmP l K).length = 504 * K
  | 0, _ => rfl
  | K + 1, h => by
    rw [strmP, List.length_append, strmP_len l K (by omega)]
    unfold partL
    rw [List.length_take, List.length_drop]
    omega
theorem strmP_byte {l : List Int} (h : isB l) : ∀ K, isB (strmP l K)
  | 0 => isB.nil
  | K + 1 => (strmP_byte h K).append2 ((h.drop _).take' _)
theorem stream_go (e : Int) (l : List Int) (N : Nat) (hN : N = l.length / 512) : ∀ j, j ≤ N → (∀ q, q < j → stampIs (l.drop (512 * q)) e) → streamN e N l = strmP l j ++ streamN e (N - j) (l.drop (512 * j))
  | 0, _, _ => by simp [strmP]
  | j + 1, hj, hs => by
    rw [stream_go e l N hN j (by omega) (fun q hq => hs q (by omega))]
    obtain ⟨k, hk⟩ : ∃ k, N - j = k + 1 := ⟨N - j - 1, by omega⟩
    rw [hk, show N - (j + 1) = k by omega, streamN, if_neg (by rw [List.length_drop]; omega), if_pos (show readE _ 0 8 = 0 ∧ readP _ 0 8 = e from hs j (by omega)), List.drop_drop, List.drop_drop, strmP, List.append_assoc]
    rfl
theorem stream_at (e : Int) (l : List Int) {K : Nat} (hK : K ≤ l.length / 512) (hs : ∀ q, q < K → stampIs (l.drop (512 * q)) e) (hend : K = l.length / 512 ∨ ¬ stampIs (l.drop (512 * K)) e) : streamN e (l.length / 512) l = strmP l K := by
  rw [stream_go e l _ rfl K hK hs]
  rcases hend with h | h
  · rw [h, Nat.sub_self]
    exact List.append_nil _
  · cases hk : l.length / 512 - K with
    | zero => exact List.append_nil _
    | succ k =>
      rw [streamN, if_neg (by rw [List.length_drop]; omega), if_neg (show ¬ (readE (l.drop (512 * K)) 0 8 = 0 ∧ readP (l.drop (512 * K)) 0 8 = e) from h)]
      exact List.append_nil _
theorem make_room (n : Nat) (hn : n ≤ 140737488351232) (w : World) : ∃ o, (Instr.makeSlice 22 (.int .i64 0) (.int .i64 (n : Int))).run Tryd.prog w = .ok (.slice (some ⟨w.heap.size, 0, none⟩) 0 n) (w.alloc o) ∧ OwnB (w.alloc o) w.heap.size (.slice (some ⟨w.heap.size, 0, none⟩) 0 n) [] := by
  obtain ⟨i, h1, h2, h3, h4⟩ := info_parts info_byte
  have hb2 : (i.bytes : Int) * (n : Int) ≤ 281474976710656 := by rw [h4]; omega
  have := run_make (P := Tryd.prog) w 22 5 i (.int .u8 0) Tryd.underlying22 h1 h2 .i64 .i64 0 n (by omega) (by omega) hb2 (by omega)
  refine ⟨_, by simpa using this, ?_⟩
  refine ⟨rfl, .inr ⟨w.heap.size, n, _, rfl, Nat.le_refl _, heap_alloc_new w _, Nat.zero_le _, by unfold maxLen; omega, ?_, ?_⟩⟩
  · rw [h3]
    simp [size_madeCells, Value.cells]
  · simp [btV]
theorem row_cell0 {w : World} {b : Nat} {v : Value} {t : TypeId} (h : w.heap[b]? = some (.cells #[v] t (0, 0))) : w.cell? ⟨b, 0, none⟩ = some v ∧ w.frozen? ⟨b, 0, none⟩ = false := by
  unfold World.cell? World.frozen?
  simp [h]
/-- Between two rounds: what has come, in a box. -/
structure StrR (w : World) (sb nb B : Nat) (l : List Int) (a : Option Addr) (n c : Nat) (i : Nat) (A : World) : Prop where
  ex : ∃ v, A.heap[B]? = some (.cells #[v] 22 (0, 0)) ∧ OwnB A w.heap.size v (strmP l i) ∧ v.ownBlock ≠ some B
  ok : OkC sb nb a n c 512 A
  below : Below w.heap.size w A
theorem StrR.keep {w : World} {sb nb B : Nat} {l : List Int} {a : Option Addr} {n c i m : Nat} {A C : World} (h : StrR w sb nb B l a n c i A) (hm : w.heap.size ≤ m) (ht : Turns TL m A C) : StrR w sb nb B l a n c i C := by
  obtain ⟨v, h1, h2, h3⟩ := h.ex
  refine ⟨⟨v, ht.block _ _ h1 (TL_cells _ _ _), ?_, h3⟩, ⟨ht.block _ _ h.ok.1 (TL_cells _ _ _), ht.block _ _ h.ok.2 (TL_cells _ _ _)⟩, h.below.trans (ht.below.mono hm)⟩
  refine h2.keep fun g hg => ?_
  rcases h2.2 with ⟨hv, _⟩ | ⟨g', cap, cur, hv, -, hc, _⟩
  · rw [hv] at hg; cases hg
  · rw [hv] at hg
    injection hg with hg
    subst hg
    rw [hc]
    exact ht.block _ _ hc (TL_cells _ _ _)
/-- A part appended: the append's run at the world that the region draws, and what is so behind the store. -/
theorem StrR.next {w : World} {sb nb B : Nat} {l : List Int} {n c i : Nat} {A : World} {g o : Nat} (h : StrR w sb nb B l (some ⟨g, o, none⟩) n c i A) (hin : InB A (some ⟨g, o, none⟩) l) (hi : 512 * (i + 1) ≤ l.length) (hl : l.length ≤ 140737488351232) (hw : w.heap.size ≤ B) (hsB : sb ≠ B ∧ nb ≠ B) :
    ∃ v v' w1, (∃ a3 n3 c3, v = .slice a3 n3 c3) ∧ (∃ a3 n3 c3, v' = .slice a3 n3 c3) ∧ A.heap[B]? = some (.cells #[v] 22 (0, 0)) ∧ (Builtin.append_ #[22, 22] 22 #[v, .slice (some ⟨g, o + (512 * i + 8), none⟩) 504 504]).run Tryd.prog A.drew = .ok v' w1 ∧ w1.heap[B]? = some (.cells #[v] 22 (0, 0)) ∧
      Keeps A (w1.setCell ⟨B, 0, none⟩ v') ∧ StrR w sb nb B l (some ⟨g, o, none⟩) n c (i + 1) (w1.setCell ⟨B, 0, none⟩ v') := by
  obtain ⟨v, h1, h2, hne⟩ := h.ex
  have hpl : (partL l i).length = 504 := by unfold partL; rw [List.length_take, List.length_drop]; omega
  have hsl := strmP_len l i (by omega)
  have hpi : InB A.drew (some ⟨g, o + (512 * i + 8), none⟩) (partL l i) := (adAt_in hin (512 * i + 8) 504).then_ (Below.refl _ A).drew
  have hB := (Array.getElem?_eq_some_iff.1 h1).1
  obtain ⟨ad, ead, hsrc⟩ := hpi.src (Below.refl _ _) (by rw [hpl]; decide)
  injection ead with ead
  subst ead
  obtain ⟨v', w1, hr, G⟩ := run_apB A.drew 22 w.heap.size v (strmP l i) h2.drew ⟨g, o + (512 * i + 8), none⟩ 504 504 (partL l i) hpl hsrc (by omega) (by show w.heap.size ≤ A.heap.size; exact h.below.size)
  have e1 : w1.heap[B]? = some (.cells #[v] 22 (0, 0)) := (G.grow.block B hB (fun e => hne e.symm)).trans h1
  have hb1 : Below w.heap.size A w1 := ((Below.refl w.heap.size A).drew).trans (G.below h2.drew (Below.refl w.heap.size A.drew) (Nat.le_refl _) (by show w.heap.size ≤ A.heap.size; exact h.below.size))
  have e2 : (w1.setCell ⟨B, 0, none⟩ v').heap[B]? = some (.cells #[v'] 22 (0, 0)) := by
    have := heap_setCell_same _ _ 0 _ _ v' e1
    simpa using this
  have old : ∀ (k : Nat) (cs : Array Value) (t : TypeId) (f : Nat × Nat), k ≠ B → A.heap[k]? = some (.cells cs t f) → v.ownBlock ≠ some k → (w1.setCell ⟨B, 0, none⟩ v').heap[k]? = some (.cells cs t f) := fun k cs t f hk e hn => by
    rw [Below.heap_setCell _ _ _ _ hk]
    exact (G.grow.block k (Array.getElem?_eq_some_iff.1 e).1 (fun e => hn e.symm)).trans e
  refine ⟨v, v', w1, (by obtain ⟨a3, c3, e3, -⟩ := h2.shape; exact ⟨a3, _, c3, e3⟩), (by obtain ⟨a3, c3, e3, -⟩ := G.own.shape; exact ⟨a3, _, c3, e3⟩), h1, hr, e1, ?_, ?_⟩
  · refine Keeps.trans ⟨G.grow.size, fun k ob e t => ?_⟩ (Keeps.setCell e1 v')
    refine (G.grow.block k (Array.getElem?_eq_some_iff.1 e).1 (fun ev => ?_)).trans e
    rcases h2.2 with ⟨hv, _⟩ | ⟨g', cap, cur, hv, -, hc, _⟩
    · rw [hv] at ev; cases ev
    · rw [hv] at ev
      replace ev : some k = some g' := ev
      injection ev with ev
      subst ev
      have e' : A.heap[k]? = some ob := e
      rw [hc] at e'
      injection e' with e'
      subst e'
      exact TL_cells _ _ _ t
  · have hns : ∀ (k : Nat) (cs : Array Value) (t : TypeId), t ≠ 5 → A.heap[k]? = some (.cells cs t (0, 0)) → v.ownBlock ≠ some k := fun k cs t ht e ev => by
      rcases h2.2 with ⟨hv, _⟩ | ⟨g', cap, cur, hv, -, hc, _⟩
      · rw [hv] at ev; cases ev
      · rw [hv] at ev
        injection ev with ev
        subst ev
        rw [hc] at e
        cases e
        exact ht rfl
    have hne' : v'.ownBlock ≠ some B := fun e => by
      rcases G.at_ with h4 | ⟨g', h4, h5⟩
      · exact hne (h4 ▸ e)
      · rw [h4] at e
        injection e with e
        have : A.heap.size ≤ g' := h5
        omega
    refine ⟨⟨v', e2, ?_, hne'⟩, ⟨old _ _ _ _ hsB.1 h.ok.1 (hns _ _ _ (by decide) h.ok.1), old _ _ _ _ hsB.2 h.ok.2 (hns _ _ _ (by decide) h.ok.2)⟩, ?_⟩
    · exact G.own.keep fun g hg => Below.heap_setCell _ _ _ _ (fun e => hne' (by rw [hg]; exact congrArg some e))
    · exact (h.below.trans hb1).setCell (p := ⟨B, 0, none⟩) hw _
def AxS (B : Nat) (la : Option Addr) (m i : Nat) (a' : Act) : Prop := ∃ x0 x1 x2 x3 x4 x5 x8 x9 x10 x11 x12 x13 x14 x15 x16 x17 x18 x19 x20 x21 x22 x23 x24 x25 x26 x27 x28 x29 x30 x31 x32 x33 x34 x35 : Value, a' = { tmps := #[x0, x1, x2, x3, x4, x5, .pointer (some ⟨B, 0, none⟩), .slice (adAt la (512 * i)) (min 512 (m - 512 * i)) (min 512 (m - 512 * i)), x8, x9, x10, x11, x12, x13, x14, x15, x16, x17, x18, x19, x20, x21, x22, x23, x24, x25, x26, x27, x28, x29, x30, x31, x32, x33, x34, x35], defers := [] }
/-- The loop's beginning. -/
theorem stream_start {w W1 : World} {ob : Obj} {la : Option Addr} {m c : Nat} {l : List Int} {k : Nat} (ho : OwnB (w.alloc ob) w.heap.size (.slice (some ⟨w.heap.size, 0, none⟩) 0 k) []) (hin : InB w la l)
    (e : W1 = (((w.alloc ob).alloc (.cells #[.slice (some ⟨w.heap.size, 0, none⟩) 0 k] 22)).alloc (.cells #[.slice la m c] 22)).alloc (.cells #[.int .i64 512] 3)) :
    W1.heap.size = w.heap.size + 4 ∧ StrR w (w.heap.size + 2) (w.heap.size + 3) (w.heap.size + 1) l la m c 0 W1 ∧ InB W1 la l := by
  have hbx := below1 (w.alloc ob) (.cells #[.slice (some ⟨w.heap.size, 0, none⟩) 0 k] 22)
  have hbA := below2 ((w.alloc ob).alloc (.cells #[.slice (some ⟨w.heap.size, 0, none⟩) 0 k] 22)) (.cells #[.slice la m c] 22) (.cells #[.int .i64 512] 3)
  have hb1 := below_then hbx hbA
  have hb := below_then (below1 w ob) hb1
  subst e
  refine ⟨by simp, ⟨⟨.slice (some ⟨w.heap.size, 0, none⟩) 0 k, ?_, ?_, ?_⟩, ⟨?_, ?_⟩, hb⟩, hin.then_ hb⟩
  · exact row_then (heap_alloc_at (w.alloc ob) _ (w.heap.size + 1) (by simp)) hbA
  · exact ho.then_ hb1
  · intro e
    injection e with e
    dsimp only at e
    omega
  · exact row_then (heap_alloc_at ((w.alloc ob).alloc (.cells #[.slice (some ⟨w.heap.size, 0, none⟩) 0 k] 22)) _ (w.heap.size + 2) (by simp)) (below1 _ _)
  · exact heap_alloc_at _ _ (w.heap.size + 3) (by simp)
set_option maxHeartbeats 8000000 in
theorem pstream_any (e : Int) (la : Option Addr) (n c : Nat) (l : List Int) (w : World) (he : okInt e) (hin : InB w la l) (hB : isB l) (hn : l.length = n) (hc : n ≤ c) (hl : n ≤ 140737488351232) (hnil : la = none → c = 0) :
    Calls Tryd.prog 41 #[.slice la n c, .int .i64 e] w fun en w' => ∃ v, en = .returned v ∧ OwnB w' w.heap.size v (streamN e (l.length / 512) l) ∧ Below w.heap.size w w' := by
  have HA := Lib.hid (And.intro hin (And.intro hB hn))
  have HPl := Lib.hid (show (1 ≤ n → ∀ ad, la = some ad → ad.spot = none) ∧ (la = none → c = 0) from ⟨fun h => by
    obtain ⟨b, o, x, e, -⟩ := hin.one (i := 0) (by omega)
    subst e
    intro ad e
    injection e with e
    subst e
    rfl, hnil⟩)
  refine (callsIn_wide (n := 8)).1 ?_
  refine callsIn_of_wp_marks Tryd.func41 rfl trivial ?_ rfl
  simp only [Tryd.ntmps41, List.size_toArray, List.length_cons, List.length_nil, Nat.reduceAdd, Nat.reduceSub, Array.replicate_succ, Array.replicate_zero, List.push_toArray, List.append_toArray, List.nil_append, List.cons_append]
  have hfL : Fence.wide.fn 56 := trivial
  have hfC : Fence.wide.fn 50 := trivial
  clear hin hB hnil
  gi_wp2
  gi_loopw [5] (fun p wr => ∃ j m : Nat, p = .int .i64 (m : Int) ∧ wr = w ∧ m ≤ n ∧ Hid (m = 512 * j ∧ ∀ q, q < j → stampIs (l.drop (512 * q)) e)) (fun p _ => n + 512 - (RowKit.intOf p).toNat)
  case atStart => exact ⟨0, 0, rfl, rfl, by omega, Lib.hid ⟨rfl, fun q hq => by omega⟩⟩
  case round =>
    obtain ⟨j, m, rfl, rfl, hm, HS⟩ := hrel
    have HT := Lib.hid (fun (h5 : 1 ≤ n) => show ∃ a', (∀ w, (Instr.slice 22 (.slice la n c) (some (.int .i64 (m : Int))) none none).run Tryd.prog w = .ok (.slice a' (n - m) (c - m)) w) ∧ Calls Tryd.prog 56 #[.slice a' (n - m) (c - m), .int .i64 e] wr fun en w' => en = .returned (.bool (stampD (l.drop m) e)) ∧ wr = w' from by
      obtain ⟨a', hs0, hia, -, -⟩ := run_slL la n c m (m : Int) rfl hm hc HPl.out.2 (HPl.out.1 h5)
      exact ⟨a', hs0, pisStamped_any e a' (n - m) (c - m) (l.drop m) wr he (hia wr l HA.out.1 HA.out.2.2) (HA.out.2.1.drop _) (by rw [List.length_drop, HA.out.2.2]) (by omega) (by omega)⟩)
    have hstop : (512 ≤ n - m ∧ stampD (l.drop m) e = true) ∨ (n - m < 512) ∨ (512 ≤ n - m ∧ stampD (l.drop m) e = false) := by
      cases stampD (l.drop m) e <;> simp <;> omega
    rcases hstop with ⟨q, hs⟩ | hstop
    · obtain ⟨a', hs0, HT⟩ := HT.out (by omega)
      have HT := Lib.hid HT
      rw [hs] at HT
      have HS2 := Lib.hid (show m + 512 = 512 * (j + 1) ∧ ∀ q, q < j + 1 → stampIs (l.drop (512 * q)) e from ⟨by have := HS.out.1; omega, fun q hq => by
        by_cases hqj : q < j
        · exact HS.out.2 q hqj
        · rw [show q = j by omega, ← HS.out.1]
          exact (stampD_is _ _).1 hs⟩)
      clear hs
      have q' : (512 : Int) ≤ (n : Int) - (m : Int) := by omega
      gi_wp2_with (gi_at_call 56; refine (callsIn_wide.2 HT.out).mono ?_; rintro en w1 ⟨rfl, rfl⟩)
      go_roundw
      case rel => exact ⟨j + 1, m + 512, by go_num, trivial, by omega, HS2⟩
      case measure => simp [RowKit.intOf]; omega
    · have HSt := Lib.hid (show streamN e (l.length / 512) l = strmP l j from stream_at e l (by rw [HA.out.2.2]; have := HS.out.1; omega) HS.out.2 (by
        rw [HA.out.2.2]
        have := HS.out.1
        rcases hstop with q | ⟨q, hs⟩
        · exact .inl (by omega)
        · refine .inr fun h => ?_
          rw [← this] at h
          rw [(stampD_is _ _).2 h] at hs
          cases hs))
      have e2 : (m : Int).tdiv 512 = (j : Int) := by
        rw [Int.tdiv_eq_ediv_of_nonneg (by omega)]
        have := HS.out.1
        omega
      have hj5 : j * 512 ≤ n := by have := HS.out.1; omega
      obtain ⟨ob, hmk, hob⟩ := make_room (504 * j) (by omega) wr
      rw [show ((504 * j : Nat) : Int) = (j : Int) * 504 by omega] at hmk
      have HOB := Lib.hid hob
      clear hob
      rcases hstop with q | ⟨q, hs⟩
      · have q' : ¬ ((512 : Int) ≤ (n : Int) - (m : Int)) := by omega
        clear HT
        gi_wp2_with (first
          | fail
          | (gi_at_call 50; refine (callsIn_wide.2 (chunk_any la m c 512 (by omega) _)).mono ?_; rintro en W1 ⟨rfl, eW1⟩; have EW1 := Lib.hid eW1; clear eW1))
        obtain ⟨h4, h5, h6⟩ := stream_start HOB.out HA.out.1 (la := la) (m := m) (c := c) (l := l) EW1.out
        have HI := Lib.hid h6
        have HST := Lib.hid (And.intro h4 h5)
        clear EW1 h4 h5 h6
        refine wp_each (by omega) (gf := 71) (lb := _) rfl (enters_of Tryd.func71 (by kernel_rfl) rfl) (chunk_each (wr.heap.size + 2) (wr.heap.size + 3) la m c 512 (by omega) (by omega) (by omega) (by omega) (fun h => HPl.out.1 (by omega)) HPl.out.2) (fun _ => rfl)
          (StrR wr (wr.heap.size + 2) (wr.heap.size + 3) (wr.heap.size + 1) l la m c) (fun _ _ => False) (fun i A h => h.ok) (fun i A C h ht => h.keep (by rw [HST.out.1]; omega) ht) (fun _ _ _ h _ => h) HST.out.2
          (fun i a' _ => AxS (wr.heap.size + 1) la m i a') (fun _ _ _ _ h _ => h) ?assign ?body ?done ?stop
        case assign =>
          intro l1 i A K hz hI hK
          unfold encC
          gi_wp2
          exact hK _ _ (Turns.refl _ _ _) (Keeps.refl _) ⟨_, _, _, _, _, _, _, _, _, _, _, _, _, _, _, _, _, _, _, _, _, _, _, _, _, _, _, _, _, _, _, _, _, _, rfl⟩
        case stop =>
          intro D cc A hD hI hK
          exact hI.elim
        case body =>
          rintro l1 i a' A hz hI ⟨x0, x1, x2, x3, x4, x5, x8, x9, x10, x11, x12, x13, x14, x15, x16, x17, x18, x19, x20, x21, x22, x23, x24, x25, x26, x27, x28, x29, x30, x31, x32, x33, x34, x35, rfl⟩ hiM
          have him : 512 * i < m := (cuts_lt (by omega)).1 hiM
          have hij : 512 * (i + 1) ≤ m := by have := HS.out.1; omega
          obtain ⟨g, o, y0, rfl, -, -⟩ := HA.out.1.one (i := 0) (by rw [HA.out.2.2]; omega)
          obtain ⟨v, v', w1, ⟨a3, n3, c3, rfl⟩, ⟨a4, n4, c4, rfl⟩, k1, hap, k2, k3, k4⟩ := hI.next (hin := HA.out.1.then_ hI.below) (by rw [HA.out.2.2]; omega) (by rw [HA.out.2.2]; exact hl) (by omega) ⟨by omega, by omega⟩
          have HK := Lib.hid (And.intro k3 k4)
          rw [show min 512 (m - 512 * i) = 512 by omega]
          obtain ⟨p, hp⟩ : ∃ p, p = o + 512 * i := ⟨_, rfl⟩
          rw [← Nat.add_assoc, ← hp] at hap
          have e3 : adAt (some ⟨g, o, none⟩) (512 * i) = some ⟨g, p, none⟩ := by rw [hp]; rfl
          rw [e3]
          have q1 := row_cell0 k1
          have q2 := row_cell0 k2
          obtain ⟨q1, q1'⟩ := q1
          obtain ⟨q2, q2'⟩ := q2
          clear hI k1 k2 k3 k4 hp e3 e2 hmk hm hj5 hfL hfC hij him
          gi_wp2
          refine wpIn_region_any (by kernel_rfl) ?_
          change wpAnyIn _ _ _ _ _ _ _ _ _ A.drew
          refine wpAnyIn_ready (rs := [0, 1]) (by kernel_rfl) (by simp) ?_
          refine AllReadyIn.cons rfl (fun K hK => ?oA) (AllReadyIn.cons rfl (fun K hK => ?oB) AllReadyIn.nil)
          case' oA =>
            go_simp
            refine hK _ _ ?_
            clear hK K
            refine wpAnyIn_ready (rs := [1]) (by kernel_rfl) (by simp) ?_
            refine AllReadyIn.cons rfl (fun K hK => ?_) AllReadyIn.nil
            go_simp
            refine hK _ _ ?_
            clear hK K
            refine wpAnyIn_ready (rs := [2]) (by kernel_rfl) (by simp) ?_
            refine AllReadyIn.cons rfl (fun K hK => ?_) AllReadyIn.nil
            go_simp
            refine hK _ _ ?_
            clear hK K
            refine wpAnyIn_ready (rs := [3]) (by kernel_rfl) (by simp) ?_
            refine AllReadyIn.cons rfl (fun K hK => ?_) AllReadyIn.nil
            refine stepIn_apRun rfl (.tmp 31) (.tmp 33) 22 rfl _ _ _ _ rfl rfl hap ?_
            refine hK _ _ ?_
            clear hK K
            refine wpAnyIn_ready (rs := [4]) (by kernel_rfl) (by simp) ?_
            refine AllReadyIn.cons rfl (fun K hK => ?_) AllReadyIn.nil
            go_simp
            refine hK _ _ ?_
            clear hK K
            refine wpAnyIn_done (by kernel_rfl) ?_ _
            exact HK.out
          case' oB =>
            go_simp
            refine hK _ _ ?_
            clear hK K
            refine wpAnyIn_ready (rs := [0, 2]) (by kernel_rfl) (by simp) ?_
            refine AllReadyIn.cons rfl (fun K hK => ?oC) (AllReadyIn.cons rfl (fun K hK => ?oD) AllReadyIn.nil)
            case' oC =>
              go_simp
              refine hK _ _ ?_
              clear hK K
              refine wpAnyIn_ready (rs := [2]) (by kernel_rfl) (by simp) ?_
              refine AllReadyIn.cons rfl (fun K hK => ?_) AllReadyIn.nil
              go_simp
              refine hK _ _ ?_
              clear hK K
              refine wpAnyIn_ready (rs := [3]) (by kernel_rfl) (by simp) ?_
              refine AllReadyIn.cons rfl (fun K hK => ?_) AllReadyIn.nil
              refine stepIn_apRun rfl (.tmp 31) (.tmp 33) 22 rfl _ _ _ _ rfl rfl hap ?_
              refine hK _ _ ?_
              clear hK K
              refine wpAnyIn_ready (rs := [4]) (by kernel_rfl) (by simp) ?_
              refine AllReadyIn.cons rfl (fun K hK => ?_) AllReadyIn.nil
              go_simp
              refine hK _ _ ?_
              clear hK K
              refine wpAnyIn_done (by kernel_rfl) ?_ _
              exact HK.out
            case' oD =>
              go_simp
              refine hK _ _ ?_
              clear hK K
              refine wpAnyIn_ready (rs := [0]) (by kernel_rfl) (by simp) ?_
              refine AllReadyIn.cons rfl (fun K hK => ?_) AllReadyIn.nil
              go_simp
              refine hK _ _ ?_
              clear hK K
              refine wpAnyIn_ready (rs := [3]) (by kernel_rfl) (by simp) ?_
              refine AllReadyIn.cons rfl (fun K hK => ?_) AllReadyIn.nil
              refine stepIn_apRun rfl (.tmp 31) (.tmp 33) 22 rfl _ _ _ _ rfl rfl hap ?_
              refine hK _ _ ?_
              clear hK K
              refine wpAnyIn_ready (rs := [4]) (by kernel_rfl) (by simp) ?_
              refine AllReadyIn.cons rfl (fun K hK => ?_) AllReadyIn.nil
              go_simp
              refine hK _ _ ?_
              clear hK K
              refine wpAnyIn_done (by kernel_rfl) ?_ _
              exact HK.out
        case done =>
          intro D A hD hI hK
          obtain ⟨v, k1, k2, k3⟩ := hI.ex
          have hji : cuts 512 m = j := by rw [HS.out.1]; unfold cuts; omega
          rw [hji] at k2
          have HE := Lib.hid (show OwnB (A.putObj D (.deferred none)) wr.heap.size v (streamN e (l.length / 512) l) ∧ Below wr.heap.size wr (A.putObj D (.deferred none)) from by
            have hb := hI.below
            rw [HSt.out]
            refine ⟨k2.keep fun g hg => World.putObj_heap_other fun e => ?_, hb.trans ⟨rfl, rfl, rfl, by simp, fun k hk => World.putObj_heap_other (by have := HST.out.1; omega)⟩⟩
            subst e
            rcases k2.2 with ⟨hv, _⟩ | ⟨g', cap, cur, hv, -, hc, _⟩
            · rw [hv] at hg; cases hg
            · rw [hv] at hg
              injection hg with hg
              subst hg
              rw [hK] at hc
              cases hc)
          obtain ⟨q1, q1'⟩ := row_cell0 k1
          clear hI k1 k2 k3 hji
          gi_wp2
          refine ⟨by simp, .inl ⟨_, _, rfl, run_takeDeferred hK, ?_⟩⟩
          refine ⟨v, ?_, v, rfl, HE.out.1, HE.out.2⟩
          exact (results_tmp (fn := Tryd.f41) (t := 4) rfl _ _ _)
      · have q' : (512 : Int) ≤ (n : Int) - (m : Int) := by omega
        obtain ⟨a', hs0, HT⟩ := HT.out (by omega)
        have HT := Lib.hid HT
        rw [hs] at HT
        clear hs
        gi_wp2_with (first
          | (gi_at_call 56; refine (callsIn_wide.2 HT.out).mono ?_; rintro en w1 ⟨rfl, rfl⟩)
          | (gi_at_call 50; refine (callsIn_wide.2 (chunk_any la m c 512 (by omega) _)).mono ?_; rintro en W1 ⟨rfl, eW1⟩; have EW1 := Lib.hid eW1; clear eW1))
        obtain ⟨h4, h5, h6⟩ := stream_start HOB.out HA.out.1 (la := la) (m := m) (c := c) (l := l) EW1.out
        have HI := Lib.hid h6
        have HST := Lib.hid (And.intro h4 h5)
        clear EW1 h4 h5 h6
        refine wp_each (by omega) (gf := 71) (lb := _) rfl (enters_of Tryd.func71 (by kernel_rfl) rfl) (chunk_each (wr.heap.size + 2) (wr.heap.size + 3) la m c 512 (by omega) (by omega) (by omega) (by omega) (fun h => HPl.out.1 (by omega)) HPl.out.2) (fun _ => rfl)
          (StrR wr (wr.heap.size + 2) (wr.heap.size + 3) (wr.heap.size + 1) l la m c) (fun _ _ => False) (fun i A h => h.ok) (fun i A C h ht => h.keep (by rw [HST.out.1]; omega) ht) (fun _ _ _ h _ => h) HST.out.2
          (fun i a' _ => AxS (wr.heap.size + 1) la m i a') (fun _ _ _ _ h _ => h) ?assign2 ?body2 ?done2 ?stop2
        case assign2 =>
          intro l1 i A K hz hI hK
          unfold encC
          gi_wp2
          exact hK _ _ (Turns.refl _ _ _) (Keeps.refl _) ⟨_, _, _, _, _, _, _, _, _, _, _, _, _, _, _, _, _, _, _, _, _, _, _, _, _, _, _, _, _, _, _, _, _, _, rfl⟩
        case stop2 =>
          intro D cc A hD hI hK
          exact hI.elim
        case body2 =>
          rintro l1 i a' A hz hI ⟨x0, x1, x2, x3, x4, x5, x8, x9, x10, x11, x12, x13, x14, x15, x16, x17, x18, x19, x20, x21, x22, x23, x24, x25, x26, x27, x28, x29, x30, x31, x32, x33, x34, x35, rfl⟩ hiM
          have him : 512 * i < m := (cuts_lt (by omega)).1 hiM
          have hij : 512 * (i + 1) ≤ m := by have := HS.out.1; omega
          obtain ⟨g, o, y0, rfl, -, -⟩ := HA.out.1.one (i := 0) (by rw [HA.out.2.2]; omega)
          obtain ⟨v, v', w1, ⟨a3, n3, c3, rfl⟩, ⟨a4, n4, c4, rfl⟩, k1, hap, k2, k3, k4⟩ := hI.next (hin := HA.out.1.then_ hI.below) (by rw [HA.out.2.2]; omega) (by rw [HA.out.2.2]; exact hl) (by omega) ⟨by omega, by omega⟩
          have HK := Lib.hid (And.intro k3 k4)
          rw [show min 512 (m - 512 * i) = 512 by omega]
          obtain ⟨p, hp⟩ : ∃ p, p = o + 512 * i := ⟨_, rfl⟩
          rw [← Nat.add_assoc, ← hp] at hap
          have e3 : adAt (some ⟨g, o, none⟩) (512 * i) = some ⟨g, p, none⟩ := by rw [hp]; rfl
          rw [e3]
          have q1 := row_cell0 k1
          have q2 := row_cell0 k2
          obtain ⟨q1, q1'⟩ := q1
          obtain ⟨q2, q2'⟩ := q2
          clear hI k1 k2 k3 k4 hp e3 hs0 e2 hmk hm hj5 hfL hfC hij him
          gi_wp2
          refine wpIn_region_any (by kernel_rfl) ?_
          change wpAnyIn _ _ _ _ _ _ _ _ _ A.drew
          refine wpAnyIn_ready (rs := [0, 1]) (by kernel_rfl) (by simp) ?_
          refine AllReadyIn.cons rfl (fun K hK => ?pA) (AllReadyIn.cons rfl (fun K hK => ?pB) AllReadyIn.nil)
          case' pA =>
            go_simp
            refine hK _ _ ?_
            clear hK K
            refine wpAnyIn_ready (rs := [1]) (by kernel_rfl) (by simp) ?_
            refine AllReadyIn.cons rfl (fun K hK => ?_) AllReadyIn.nil
            go_simp
            refine hK _ _ ?_
            clear hK K
            refine wpAnyIn_ready (rs := [2]) (by kernel_rfl) (by simp) ?_
            refine AllReadyIn.cons rfl (fun K hK => ?_) AllReadyIn.nil
            go_simp
            refine hK _ _ ?_
            clear hK K
            refine wpAnyIn_ready (rs := [3]) (by kernel_rfl) (by simp) ?_
            refine AllReadyIn.cons rfl (fun K hK => ?_) AllReadyIn.nil
            refine stepIn_apRun rfl (.tmp 31) (.tmp 33) 22 rfl _ _ _ _ rfl rfl hap ?_
            refine hK _ _ ?_
            clear hK K
            refine wpAnyIn_ready (rs := [4]) (by kernel_rfl) (by simp) ?_
            refine AllReadyIn.cons rfl (fun K hK => ?_) AllReadyIn.nil
            go_simp
            refine hK _ _ ?_
            clear hK K
            refine wpAnyIn_done (by kernel_rfl) ?_ _
            exact HK.out
          case' pB =>
            go_simp
            refine hK _ _ ?_
            clear hK K
            refine wpAnyIn_ready (rs := [0, 2]) (by kernel_rfl) (by simp) ?_
            refine AllReadyIn.cons rfl (fun K hK => ?pC) (AllReadyIn.cons rfl (fun K hK => ?pD) AllReadyIn.nil)
            case' pC =>
              go_simp
              refine hK _ _ ?_
              clear hK K
              refine wpAnyIn_ready (rs := [2]) (by kernel_rfl) (by simp) ?_
              refine AllReadyIn.cons rfl (fun K hK => ?_) AllReadyIn.nil
              go_simp
              refine hK _ _ ?_
              clear hK K
              refine wpAnyIn_ready (rs := [3]) (by kernel_rfl) (by simp) ?_
              refine AllReadyIn.cons rfl (fun K hK => ?_) AllReadyIn.nil
              refine stepIn_apRun rfl (.tmp 31) (.tmp 33) 22 rfl _ _ _ _ rfl rfl hap ?_
              refine hK _ _ ?_
              clear hK K
              refine wpAnyIn_ready (rs := [4]) (by kernel_rfl) (by simp) ?_
              refine AllReadyIn.cons rfl (fun K hK => ?_) AllReadyIn.nil
              go_simp
              refine hK _ _ ?_
              clear hK K
              refine wpAnyIn_done (by kernel_rfl) ?_ _
              exact HK.out
            case' pD =>
              go_simp
              refine hK _ _ ?_
              clear hK K
              refine wpAnyIn_ready (rs := [0]) (by kernel_rfl) (by simp) ?_
              refine AllReadyIn.cons rfl (fun K hK => ?_) AllReadyIn.nil
              go_simp
              refine hK _ _ ?_
              clear hK K
              refine wpAnyIn_ready (rs := [3]) (by kernel_rfl) (by simp) ?_
              refine AllReadyIn.cons rfl (fun K hK => ?_) AllReadyIn.nil
              refine stepIn_apRun rfl (.tmp 31) (.tmp 33) 22 rfl _ _ _ _ rfl rfl hap ?_
              refine hK _ _ ?_
              clear hK K
              refine wpAnyIn_ready (rs := [4]) (by kernel_rfl) (by simp) ?_
              refine AllReadyIn.cons rfl (fun K hK => ?_) AllReadyIn.nil
              go_simp
              refine hK _ _ ?_
              clear hK K
              refine wpAnyIn_done (by kernel_rfl) ?_ _
              exact HK.out
        case done2 =>
          intro D A hD hI hK
          obtain ⟨v, k1, k2, k3⟩ := hI.ex
          have hji : cuts 512 m = j := by rw [HS.out.1]; unfold cuts; omega
          rw [hji] at k2
          have HE := Lib.hid (show OwnB (A.putObj D (.deferred none)) wr.heap.size v (streamN e (l.length / 512) l) ∧ Below wr.heap.size wr (A.putObj D (.deferred none)) from by
            have hb := hI.below
            rw [HSt.out]
            refine ⟨k2.keep fun g hg => World.putObj_heap_other fun e => ?_, hb.trans ⟨rfl, rfl, rfl, by simp, fun k hk => World.putObj_heap_other (by have := HST.out.1; omega)⟩⟩
            subst e
            rcases k2.2 with ⟨hv, _⟩ | ⟨g', cap, cur, hv, -, hc, _⟩
            · rw [hv] at hg; cases hg
            · rw [hv] at hg
              injection hg with hg
              subst hg
              rw [hK] at hc
              cases hc)
          obtain ⟨q1, q1'⟩ := row_cell0 k1
          clear hI k1 k2 k3 hji
          gi_wp2
          refine ⟨by simp, .inl ⟨_, _, rfl, run_takeDeferred hK, ?_⟩⟩
          refine ⟨v, ?_, v, rfl, HE.out.1, HE.out.2⟩
          exact (results_tmp (fn := Tryd.f41) (t := 4) rfl _ _ _)
end Go.Proofs.YtophhnolnlbecaaDoor
namespace Go.Proofs.YtophhnolnlbecaaDoor
open Go.RowKit
set_option maxRecDepth 100000

theorem stands_bad {e num : Int} (he : ¬ jOk e) (b : List Int) : standsN b e num = 0 := by
  unfold standsN
  split
  · rfl
  · split
    · rfl
    · rw [if_neg]
      intro h
      have : frE e num ((b.drop 20).take (readP b 0 4).toNat).length = 1 := by unfold frE; rw [if_pos (.inl he)]
      unfold frL at h
      rw [this, if_neg (by decide)] at h
      have := congrArg List.length h
      simp at this
      omega
theorem scanN_is (S : List Int) (e : Int) : scanN S e = scanF S e (S.length + 1) 0 0 := by
  unfold scanN
  split
  · rfl
  · rename_i he
    rw [scanF]
    split
    · rfl
    · rw [if_pos (stands_bad he _)]
theorem scanF_out {S : List Int} {e : Int} {f k en : Nat} (h : standsN (S.drop (begins en)) e k = 0) : scanF S e (f + 1) k en = ([], en) := by
  rw [scanF]
  split
  · rfl
  · first
      | rfl
      | rw [if_pos h]
set_option maxHeartbeats 8000000 in
theorem pscan_any (e : Int) (la : Option Addr) (n c : Nat) (l : List Int) (w : World) (ht : Tab16 w) (he : okInt e) (hin : InB w la l) (hB : isB l) (hn : l.length = n) (hc : n ≤ c) (hl : n ≤ 140737488351232) (hnil : la = none → c = 0) :
    Calls Tryd.prog 15 #[.slice la n c, .int .i64 e] w (ScP l e w) := by
  have HST := Lib.hid (pstream_any e la n c l w he hin hB hn hc hl hnil)
  have hSl := stream_len e (n / 512) l
  have HSB := Lib.hid (stream_byte (e := e) (n / 512) l hB)
  have HSN := Lib.hid (show scanN (streamN e (l.length / 512) l) e = scanF (streamN e (n / 512) l) e ((streamN e (n / 512) l).length + 1) 0 0 by rw [hn, scanN_is])
  obtain ⟨R, hR⟩ : ∃ R, scanN (streamN e (l.length / 512) l) e = R := ⟨_, rfl⟩
  have HR := Lib.hid hR
  rw [hR] at HSN
  rw [hn] at hSl HST
  have HTb := Lib.hid ht
  clear hR hin hB hc ht hnil
  generalize streamN e (n / 512) l = S at *
  go_enter Tryd.func15, Tryd.ntmps15
  go_wp2_with fail
  refine HST.out.mono ?_
  rintro en w1 ⟨v1, rfl, o1, b1⟩
  obtain ⟨ax, cx, rfl, i1, n1, le1, m1⟩ := o1.shape
  have H1 := Lib.hid (And.intro i1 (And.intro n1 b1))
  obtain ⟨L, hL⟩ : ∃ L, L = S.length := ⟨_, rfl⟩
  rw [← hL] at le1 hSl HSN ⊢
  have HL := Lib.hid hL
  have HT1 := Lib.hid (tab16_onJ HTb.out b1)
  clear i1 n1 b1 o1 hL HST
  have hL2 : L ≤ 140737488351232 := by omega
  clear hSl hl hn
  go_wp2_with fail
  go_loopw [7, 8] (fun v i wr => ∃ (rs : List (Value × List Int)) (f : Nat) (en : Nat), i = .int .i64 (en : Int) ∧ en ≤ L ∧ rs.length ≤ 2147483648 ∧ Hid (OwnRO wr w1.heap.size v rs ∧ Below w1.heap.size w1 wr ∧ R = (rs.map Prod.snd ++ (scanF S e f rs.length en).1, (scanF S e f rs.length en).2) ∧ L + 1 ≤ f + en)) (fun _ i _ => L + 1 - (intOf i).toNat)
  case atStart => exact ⟨[], L + 1, 0, rfl, Nat.zero_le _, by simp, Lib.hid ⟨OwnRR.nil _ _ |>.o, Below.refl _ _, by rw [HSN.out]; simp, by omega⟩⟩
  case round =>
    obtain ⟨rs, f, en, rfl, hen, hrs, HK⟩ := hrel
    obtain ⟨av, cv, rfl, nv, lev, mv⟩ := HK.out.1.form
    have HB := Lib.hid (below_then H1.out.2.2 HK.out.2.1)
    obtain ⟨f', hf'⟩ : ∃ f', f = f' + 1 := ⟨f - 1, by have := HK.out.2.2.2; omega⟩
    have hstep := HK.out.2.2.1
    rw [hf'] at hstep
    have HF' := Lib.hid hf'
    have hbl := begins_le en
    have HBG := Lib.hid (pbegin_any en (by omega) wr)
    have HOUT := Lib.hid (fun h => scanF_out (S := S) (e := e) (f := f') (k := rs.length) (en := en) h)
    have HIN' := Lib.hid (show standsN (S.drop (begins en)) e rs.length ≠ 0 → begins en ≤ L ∧ scanF S e (f' + 1) rs.length en = ((S.drop (begins en + 20)).take (standsN (S.drop (begins en)) e rs.length - 20) :: (scanF S e f' (rs.length + 1) (begins en + standsN (S.drop (begins en)) e rs.length)).1, (scanF S e f' (rs.length + 1) (begins en + standsN (S.drop (begins en)) e rs.length)).2) from fun h => by
      have h2 := stands_some h
      rw [List.length_drop] at h2
      refine ⟨by rw [HL.out]; omega, ?_⟩
      rw [scanF, if_neg (by omega), if_neg h])
    obtain ⟨p, hp⟩ : ∃ p, p = begins en := ⟨_, rfl⟩
    rw [← hp] at HBG HOUT HIN' hbl
    have HSTEP := Lib.hid hstep
    clear hp hf' hstep
    have HRec := Lib.hid (precord_any e (rs.length : Int) p ax L cx S wr (tab16_onJ HT1.out HK.out.2.1) he (by unfold okInt; omega) (by omega) (H1.out.1.then_ HK.out.2.1) HSB.out HL.out.symm le1 hL2)
    go_wp2_with fail
    refine HBG.out.mono ?_
    rintro en' w' ⟨rfl, rfl⟩
    go_wp2_with fail
    refine HRec.out.mono ?_
    rintro en' w2 ⟨hcase, b2⟩
    have HB2 := Lib.hid b2
    rcases hcase with ⟨h0, rfl⟩ | ⟨h0, v2, rfl, ho2⟩
    · have HX := Lib.hid (show ScP l e w (.returned (.tuple #[.slice av rs.length cv, .int .i64 (en : Int)])) w2 from ⟨_, rs, by rw [HR.out, HSTEP.out, HOUT.out h0], by rw [HR.out, HSTEP.out, HOUT.out h0]; simp, (HK.out.1.then_ HB2.out).base H1.out.2.2.size, below_then HB.out HB2.out⟩)
      clear h0 b2
      go_wp2_with fail
      go_ret2
      exact HX.out
    · obtain ⟨hpL, hst⟩ := HIN'.out h0
      have g := stands_some (l := S.drop p) (e := e) (num := (rs.length : Int)) h0
      rw [List.length_drop, ← HL.out] at g
      obtain ⟨m, hm⟩ : ∃ m, m = standsN (S.drop p) e (rs.length : Int) := ⟨_, rfl⟩
      rw [← hm] at hst ho2 g
      obtain ⟨g1, g2, g3⟩ := g
      obtain ⟨X, hX⟩ : ∃ X, X = (S.drop (p + 20)).take (m - 20) := ⟨_, rfl⟩
      have HLn : Hid (X.length = m - 20) := Lib.hid (by rw [hX, List.length_take, List.length_drop, ← HL.out]; omega)
      rw [← hX] at ho2 hst
      rw [hst] at HSTEP
      obtain ⟨a5, c5, rfl, -⟩ := ho2.shape
      have HK2 := Lib.hid (HK.out.1.then_ b2)
      have HW2 := Lib.hid (below_then HK.out.2.1 b2)
      have RS := Lib.hid (ro_snoc HK.out.1 HB2.out ho2 HK.out.2.1.size)
      rw [HLn.out] at RS ⊢
      clear hm hX b2 h0 hst ho2
      go_wp2_with (show wpList _ _ _ (⟨some 33, _, _, _, _, _⟩ :: _) _ _; refine apRO rfl (.tmp 30) (.tmp 32) rfl w1.heap.size _ rs rfl RS.out.1 _ RS.out.2.1 RS.out.2.2.1 RS.out.2.2.2.1 (some ⟨w2.heap.size, 0, none⟩) 1 1 rfl rfl (fun e => by cases e) RS.out.2.2.2.2 (by omega) (Nat.le_trans HW2.out.size (below1 w2 _).size) ?_; intro v7 w7 h7)
      go_roundw
      case rel => exact ⟨rs ++ [(.slice a5 (m - 20) c5, X)], f', p + m, by go_num, by omega, by simp; omega, Lib.hid ⟨h7.out.1, (below_then HW2.out (below1 w2 _)).grown h7.out.2.1 (below_then HW2.out (below1 w2 _)).size (fun g hg => (HK2.out.block g hg).1), by rw [HSTEP.out, List.map_append, List.length_append]; simp, by have := HK.out.2.2.2; have := HF'.out; omega⟩⟩
      case measure => simp [intOf]; omega
end Go.Proofs.YtophhnolnlbecaaDoor
