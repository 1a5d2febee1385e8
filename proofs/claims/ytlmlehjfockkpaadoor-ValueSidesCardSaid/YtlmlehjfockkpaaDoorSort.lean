/- The contracts of Sort and of what it calls: no statement is proved here. -/
import Derived.Test.YtlmlehjfockkpaaDoorCmp2
import Derived.Test.YtlmlehjfockkpaaDoorWith
namespace Go.Proofs.YtlmlehjfockkpaaDoor
open Go.RowKit
set_option maxRecDepth 100000

/-- Two rows as one; of items alike those of the first stand ahead. -/
def mergeG {α : Type} (f : α → α → Int) : List α → List α → List α
  | [], r => r
  | x :: l, [] => x :: l
  | x :: l, y :: r => if f x y ≤ 0 then x :: mergeG f l (y :: r) else y :: mergeG f (x :: l) r
termination_by l r => l.length + r.length
theorem mergeG_nil {α : Type} (f : α → α → Int) (l : List α) : mergeG f l [] = l := by cases l <;> rw [mergeG]
theorem mergeG_perm {α : Type} (f : α → α → Int) : ∀ (n : Nat) (l r : List α), l.length + r.length ≤ n → (mergeG f l r).Perm (l ++ r) := by
  intro n
  induction n with
  | zero =>
    intro l r h
    have h1 : l = [] := List.eq_nil_of_length_eq_zero (by omega)
    subst h1
    rw [mergeG]; exact List.Perm.refl _
  | succ n ih =>
    intro l r h
    cases l with
    | nil => rw [mergeG]; exact List.Perm.refl _
    | cons x l =>
      cases r with
      | nil => rw [mergeG_nil]; simp
      | cons y r =>
        rw [mergeG]
        simp only [List.length_cons] at h
        split
        · exact List.Perm.cons x (ih l (y :: r) (by simp; omega))
        · refine (List.Perm.cons y (ih (x :: l) r (by simp; omega))).trans ?_
          exact List.perm_middle.symm
/-- A row in order. -/
def sortG {α : Type} (f : α → α → Int) (l : List α) : List α :=
  if h : l.length < 2 then l else mergeG f (sortG f (l.take (l.length / 2))) (sortG f (l.drop (l.length / 2)))
termination_by l.length
decreasing_by
  · simp; omega
  · simp; omega
theorem sortG_perm {α : Type} (f : α → α → Int) : ∀ (n : Nat) (l : List α), l.length ≤ n → (sortG f l).Perm l := by
  intro n
  induction n with
  | zero => intro l h; rw [sortG, dif_pos (by omega)]
  | succ n ih =>
    intro l h
    rw [sortG]
    split
    · exact List.Perm.refl _
    · refine (mergeG_perm f _ _ _ (Nat.le_refl _)).trans ?_
      refine ((ih _ (by simp; omega)).append (ih _ (by simp; omega))).trans ?_
      rw [List.take_append_drop]
theorem sortG_len {α : Type} (f : α → α → Int) (l : List α) : (sortG f l).length = l.length := (sortG_perm f _ l (Nat.le_refl _)).length_eq
theorem mergeG_map {α β : Type} (f : β → β → Int) (g : α → β) : ∀ (n : Nat) (l r : List α), l.length + r.length ≤ n → (mergeG (fun x y => f (g x) (g y)) l r).map g = mergeG f (l.map g) (r.map g) := by
  intro n
  induction n with
  | zero =>
    intro l r h
    have h1 : l = [] := List.eq_nil_of_length_eq_zero (by omega)
    subst h1
    rw [mergeG, List.map_nil, mergeG]
  | succ n ih =>
    intro l r h
    cases l with
    | nil => rw [mergeG, List.map_nil, mergeG]
    | cons x l =>
      cases r with
      | nil => rw [mergeG_nil, List.map_nil, mergeG_nil]
      | cons y r =>
        simp only [List.length_cons] at h
        rw [mergeG, List.map_cons, List.map_cons, mergeG]
        split
        · rw [List.map_cons, ih l (y :: r) (by simp; omega), List.map_cons]
        · rw [List.map_cons, ih (x :: l) r (by simp; omega), List.map_cons]
theorem sortG_map {α β : Type} (f : β → β → Int) (g : α → β) : ∀ (n : Nat) (l : List α), l.length ≤ n → (sortG (fun x y => f (g x) (g y)) l).map g = sortG f (l.map g) := by
  intro n
  induction n with
  | zero => intro l h; rw [sortG, dif_pos (by omega), sortG, dif_pos (by simp; omega)]
  | succ n ih =>
    intro l h
    rw [sortG]
    split
    · rw [sortG, dif_pos (by simpa using ‹l.length < 2›)]
    · rw [mergeG_map f g _ _ _ (Nat.le_refl _), ih _ (by simp; omega), ih _ (by simp; omega)]
      conv => rhs; rw [sortG, dif_neg (by simpa using ‹¬ l.length < 2›)]
      simp only [List.length_map, List.map_take, List.map_drop]
def cmpT (x y : T) : Int := cmpV x.val y.val
theorem mergeT_step (x y : T) (l r : List T) : mergeG cmpT (x :: l) (y :: r) = if cmpV x.val y.val ≤ 0 then x :: mergeG cmpT l (y :: r) else y :: mergeG cmpT (x :: l) r := by rw [mergeG]; rfl

/-- The list behind its first element. -/
theorem InL.tail {w : World} {b o : Nat} {x : T} {r : List T} (h : InL w (some ⟨b, o, none⟩) (x :: r)) : InL w (some ⟨b, o + 5, none⟩) r := by
  intro p hp
  obtain ⟨j, y, hy, hp⟩ := (T.mem_placesL _ _ _ _).1 hp
  refine h p ((T.mem_placesL _ _ _ _).2 ⟨j + 1, y, by simpa using hy, ?_⟩)
  rcases hp with hp | hp
  · left
    obtain ⟨i, c, hc, rfl⟩ := mem_laid.1 hp
    refine mem_laid.2 ⟨i, c, hc, ?_⟩
    simp only [at_, Nat.zero_add]
    congr 2
    omega
  · exact .inr hp
theorem InL.nil {w : World} (a : Option Addr) : InL w a [] := by intro p hp; simp [T.placesL] at hp
/-- The cells of a list, one behind another. -/
theorem InL.cells {w : World} {a : Option Addr} {l : List T} (h : InL w a l) : ∀ ad, a = some ad → ∀ (j : Nat) (u : Value), (l.flatMap T.cells)[j]? = some u → w.cell? (ad.add j) = some u := by
  intro ad ha j u hj
  have hlt := (List.getElem?_eq_some_iff.1 hj).1
  rw [flat_len] at hlt
  have hi : j / 5 < l.length := by omega
  have hx : l[j / 5]? = some l[j / 5] := List.getElem?_eq_getElem hi
  obtain ⟨b, o, hbo, hc, -⟩ := h.elem hx
  rw [ha] at hbo
  obtain rfl := Option.some.inj hbo
  have hg := flatMap_get T.cells 5 cells_len l _ _ hx (j % 5) (by omega)
  rw [show j / 5 * 5 + j % 5 = j by omega, hj] at hg
  have := hc _ _ hg.symm
  rw [show o + j / 5 * 5 + j % 5 = o + j by omega] at this
  rw [← this]
  unfold Addr.add
  split <;> simp_all
theorem cells_one (l : List T) : ∀ u ∈ l.flatMap T.cells, u.oneCell' = true := by
  intro u hu
  obtain ⟨x, -, hx⟩ := List.mem_flatMap.1 hu
  obtain ⟨k, n, s, la, lc, l', da, dc, d⟩ := x
  simp [T.cells] at hx
  rcases hx with rfl | rfl | rfl | rfl | rfl <;> rfl
/-- A row of the call's own, with values that lie elsewhere. -/
theorem own_inL {w : World} {B : Nat} {a : Option Addr} {c : Nat} {ts : List T} (h : w.ownsRow B 25 5 (.slice a ts.length c) ts.length (ts.flatMap T.cells)) (hk : ∀ x ∈ ts, x.In w) : InL w a ts := by
  intro p hp
  obtain ⟨i, x, hx, hp⟩ := (T.mem_placesL _ _ _ _).1 hp
  rcases hp with hp | hp
  · obtain ⟨j, c', hc, rfl⟩ := mem_laid.1 hp
    have hjl := lt_of_get hc
    rw [cells_len] at hjl
    have hg : (ts.flatMap T.cells)[i * 5 + j]? = some c' := (flatMap_get T.cells 5 cells_len ts i x hx j hjl).trans hc
    have hr2 := h
    obtain ⟨h1, h2⟩ := h
    rcases h2 with ⟨hv, h2⟩ | ⟨g, cap, cur, hv, hb, hg', hrest⟩
    · have := lt_of_get hx; omega
    · injection hv with hv
      subst hv
      have := hr2.cells (g := g) rfl (i * 5 + j) c' hg
      simp only [Nat.zero_add, at_]
      rw [← this]
      unfold Addr.add
      split
      · rename_i h0; rw [h0]
      · simp
  · exact hk x (List.mem_of_getElem? hx) p hp
def lenOf : Value → Nat
  | .slice _ n _ => n
  | _ => 0

theorem make_zero {P : Program} (t e : TypeId) (z : Value) (size bytes : Nat) (ht : P.underlying t = some (.slice e)) (hi : (P.info? e).map (fun i => (i.zero, i.size, i.bytes)) = some (some z, size, bytes)) (n m : Nat) (hb : bytes * (n + m) ≤ 281474976710656) (hc : n + m ≤ 9223372036854775807) :
    ∃ cur : Array Value, cur.size = (n + m) * size ∧ ∀ w : World, (Instr.makeSlice t (.int .i64 0) (.int .i64 ((n : Int) + (m : Int)))).run P w = .ok (.slice (some ⟨w.heap.size, 0, none⟩) 0 (n + m)) (w.alloc (.cells cur e)) := by
  obtain ⟨cur, h1, h2⟩ := make_any t e z size bytes ht hi 0 (n + m) (by omega) hb hc
  exact ⟨cur, h1, fun w => by have := h2 w; simpa using this⟩

/-- What merged has made so far. -/
structure MergeRel (l r : List T) (w wr : World) (l' r' ts : List T) (la lb : Option Addr) (ca cb : Nat) : Prop where
  len : ts.length + l'.length + r'.length = l.length + r.length
  inl : InL w la l'
  inr : InL w lb r'
  capl : l'.length ≤ ca ∧ ca ≤ 9223372036854775807 ∧ (la = none → ca = 0)
  capr : r'.length ≤ cb ∧ cb ≤ 9223372036854775807 ∧ (lb = none → cb = 0)
  okl : ∀ x ∈ l', x.ok
  okr : ∀ x ∈ r', x.ok
  row : wr.ownsRow w.heap.size 25 5 (.slice (some ⟨w.heap.size, 0, none⟩) ts.length (l.length + r.length)) ts.length (ts.flatMap T.cells)
  eq : mergeG cmpT l r = ts ++ mergeG cmpT l' r'
  below : Below w.heap.size w wr
  size : w.heap.size < wr.heap.size
theorem merge_stepL {l r : List T} {w wr w1 w2 : World} {x : T} {l' r' ts : List T} {a : Option Addr} {la : Option Addr} {lb : Option Addr} {ca ca' cb : Nat} (R : MergeRel l r w wr (x :: l') r' ts la lb ca cb) (he : mergeG cmpT (x :: l') r' = x :: mergeG cmpT l' r') (hi : InL w a l') (hc : l'.length ≤ ca' ∧ ca' ≤ 9223372036854775807 ∧ (a = none → ca' = 0))
    (hb : Below wr.heap.size wr w1) (hown : w2.ownsRow w.heap.size 25 5 (.slice (some ⟨w.heap.size, 0, none⟩) (ts.length + 1) (l.length + r.length)) (ts.length + 1) (ts.flatMap T.cells ++ x.cells)) (hg : w1.grownBy w2 (some w.heap.size)) : MergeRel l r w w2 l' r' (ts ++ [x]) a lb ca' cb := by
  have hz := R.size
  have hlen := R.len
  simp only [List.length_cons] at hlen
  refine ⟨by simp; omega, hi, R.inr, hc, R.capr, fun y hy => R.okl y (List.mem_cons_of_mem _ hy), R.okr, ?_, ?_, (below_then R.below hb).grown hg (by have := hb.size; omega) (by simp), ?_⟩
  · simpa using hown
  · rw [R.eq, he]; simp
  · have := hb.size; have := hg.size; omega
theorem merge_stepR {l r : List T} {w wr w1 w2 : World} {x : T} {l' r' ts : List T} {a : Option Addr} {la : Option Addr} {lb : Option Addr} {ca cb cb' : Nat} (R : MergeRel l r w wr l' (x :: r') ts la lb ca cb) (he : mergeG cmpT l' (x :: r') = x :: mergeG cmpT l' r') (hi : InL w a r') (hc : r'.length ≤ cb' ∧ cb' ≤ 9223372036854775807 ∧ (a = none → cb' = 0))
    (hb : Below wr.heap.size wr w1) (hown : w2.ownsRow w.heap.size 25 5 (.slice (some ⟨w.heap.size, 0, none⟩) (ts.length + 1) (l.length + r.length)) (ts.length + 1) (ts.flatMap T.cells ++ x.cells)) (hg : w1.grownBy w2 (some w.heap.size)) : MergeRel l r w w2 l' r' (ts ++ [x]) la a ca cb' := by
  have hz := R.size
  have hlen := R.len
  simp only [List.length_cons] at hlen
  refine ⟨by simp; omega, R.inl, hi, R.capl, hc, R.okl, fun y hy => R.okr y (List.mem_cons_of_mem _ hy), ?_, ?_, (below_then R.below hb).grown hg (by have := hb.size; omega) (by simp), ?_⟩
  · simpa using hown
  · rw [R.eq, he]; simp
  · have := hb.size; have := hg.size; omega
theorem below_drew_alloc {wr w1 : World} (h : Below wr.heap.size wr w1) (Y : Obj) : Below wr.heap.size wr ((w1.drew).alloc Y) := (h.drew).alloc h.size Y
def MergesTo (l r : List T) (w : World) (e : Ending) (w' : World) : Prop :=
  e = .returned (.slice (some ⟨w.heap.size, 0, none⟩) (l.length + r.length) (l.length + r.length)) ∧ w'.ownsRow w.heap.size 25 5 (.slice (some ⟨w.heap.size, 0, none⟩) (l.length + r.length) (l.length + r.length)) (l.length + r.length) ((mergeG cmpT l r).flatMap T.cells) ∧ Below w.heap.size w w'

set_option maxHeartbeats 4000000 in
theorem merged_any (la lb : Option Addr) (ca cb : Nat) (l r : List T) (w : World) (hl : InL w la l) (hr : InL w lb r) (hcl : l.length ≤ ca ∧ ca ≤ 9223372036854775807 ∧ (la = none → ca = 0)) (hcr : r.length ≤ cb ∧ cb ≤ 9223372036854775807 ∧ (lb = none → cb = 0))
    (hokl : ∀ x ∈ l, x.ok) (hokr : ∀ x ∈ r, x.ok) (hb : (l.length + r.length) * 80 ≤ 140737488351232) :
    Calls Tryd.prog 83 #[.slice la l.length ca, .slice lb r.length cb, .func (.func 21) #[] #[]] w (MergesTo l r w) := by
  obtain ⟨cur, hcur, hmk⟩ := make_zero (P := Tryd.prog) 22 25 _ 5 80 Tryd.underlying22 info_value l.length r.length (by omega) (by omega)
  obtain ⟨i0, hi0, hz0, hz1, hz2⟩ := info_parts info_value
  have I0 := Lib.hid (And.intro hi0 hz1)
  have HC := Lib.hid hcur
  have HCL := Lib.hid hcl
  have HCR := Lib.hid hcr
  have HL := Lib.hid (And.intro hl hokl)
  have HRR := Lib.hid (And.intro hr hokr)
  clear hi0 hz0 hz1 hz2 hcur hl hr hcl hcr hokl hokr
  go_enter Tryd.func83, Tryd.ntmps83
  go_wp2_with fail
  go_loopw [0, 1, 7] (fun s0 s1 s7 wr => ∃ (l' r' ts : List T) (la' lb' : Option Addr) (ca' cb' : Nat), s0 = .slice la' l'.length ca' ∧ s1 = .slice lb' r'.length cb' ∧ s7 = .slice (some ⟨w.heap.size, 0, none⟩) ts.length (l.length + r.length) ∧ MergeRel l r w wr l' r' ts la' lb' ca' cb') (fun s0 s1 _ _ => lenOf s0 + lenOf s1)
  case atStart =>
    refine ⟨l, r, [], la, lb, ca, cb, rfl, rfl, rfl, by simp, HL.out.1, HRR.out.1, HCL.out, HCR.out, HL.out.2, HRR.out.2, ?_, rfl, below1 _ _, by simp⟩
    exact own_start (B := w.heap.size) (c := 5) cur (Nat.le_refl _) (by unfold maxLen; omega) HC.out
  case round =>
    clear hmk HL HRR HCL HCR HC
    obtain ⟨l', r', ts, la', lb', ca', cb', rfl, rfl, rfl, R⟩ := hrel
    have HR := Lib.hid R
    clear R
    rcases l' with _ | ⟨x, l'⟩
    ·
      have HLEN := Lib.hid (show ts.length + r'.length = l.length + r.length by simpa using HR.out.len)
      have hle : ts.length + r'.length ≤ l.length + r.length := Nat.le_of_eq HLEN.out
      simp only [List.length_nil]
      have HC1 := Lib.hid (fun (h : la' = none) => (⟨rfl, HR.out.capl.2.2 h⟩ : (0 : Nat) = 0 ∧ ca' = 0))
      have HC2 := Lib.hid (fun (h : lb' = none) => (show r'.length = 0 ∧ cb' = 0 from ⟨by have := HR.out.capr.1; have := HR.out.capr.2.2 h; omega, HR.out.capr.2.2 h⟩))
      go_wp2_with (first | (at_builtin; refine wpList_append_fits_any _ rfl (.tmp 47) (.tmp 48) 22 rfl w.heap.size 25 i0 5 Tryd.underlying22 I0.out.1 I0.out.2 w.heap.size ts.length (l.length + r.length) (ts.flatMap T.cells) rfl HR.out.row la' 0 ca' [] rfl rfl HC1.out (by simp) (by simp) (by omega) ?_; intro w1 own1 grow1; simp only [List.append_nil, Nat.add_zero] at own1; have B1 := Lib.hid (HR.out.below.grown grow1 (Nat.le_of_lt HR.out.size) (by simp)); have O1 := Lib.hid own1; clear own1; have G1 := Lib.hid grow1; clear grow1) | (at_builtin; refine wpList_append_fits_any _ rfl (.tmp 49) (.tmp 50) 22 rfl w.heap.size 25 i0 5 Tryd.underlying22 I0.out.1 I0.out.2 w.heap.size ts.length (l.length + r.length) (ts.flatMap T.cells) rfl O1.out lb' r'.length cb' (r'.flatMap T.cells) rfl (flat_len _) HC2.out (fun ad h => (HR.out.inr.then_ B1.out).cells ad h) (cells_one _) (by omega) ?_; intro w2 own2 grow2; have B2 := Lib.hid (B1.out.grown grow2 (by have := G1.out.size; have := HR.out.size; omega) (by simp))))
      go_ret
      rw [HLEN.out] at own2
      refine ⟨by rw [HLEN.out]; rfl, ?_, B2.out⟩
      rw [HR.out.eq, mergeG, List.flatMap_append]
      exact own2
    · rcases r' with _ | ⟨y, r'⟩
      ·
        have HLEN := Lib.hid (show ts.length + (l'.length + 1) = l.length + r.length by simpa using HR.out.len)
        have hle : ts.length + (l'.length + 1) ≤ l.length + r.length := Nat.le_of_eq HLEN.out
        have HC1 := Lib.hid (fun (h : la' = none) => (show l'.length + 1 = 0 ∧ ca' = 0 from ⟨by have h1 : l'.length + 1 ≤ ca' := HR.out.capl.1; have := HR.out.capl.2.2 h; omega, HR.out.capl.2.2 h⟩))
        have HC2 := Lib.hid (fun (h : lb' = none) => (⟨rfl, HR.out.capr.2.2 h⟩ : (0 : Nat) = 0 ∧ cb' = 0))
        simp only [List.length_nil, List.length_cons]
        go_wp2_with (first | (at_builtin; refine wpList_append_fits_any _ rfl (.tmp 47) (.tmp 48) 22 rfl w.heap.size 25 i0 5 Tryd.underlying22 I0.out.1 I0.out.2 w.heap.size ts.length (l.length + r.length) (ts.flatMap T.cells) rfl HR.out.row la' (l'.length + 1) ca' ((x :: l').flatMap T.cells) rfl (flat_len _) HC1.out (fun ad h => (HR.out.inl.then_ HR.out.below).cells ad h) (cells_one _) (by omega) ?_; intro w1 own1 grow1; have B1 := Lib.hid (HR.out.below.grown grow1 (Nat.le_of_lt HR.out.size) (by simp)); have O1 := Lib.hid own1; clear own1; have G1 := Lib.hid grow1; clear grow1) | (at_builtin; refine wpList_append_fits_any _ rfl (.tmp 49) (.tmp 50) 22 rfl w.heap.size 25 i0 5 Tryd.underlying22 I0.out.1 I0.out.2 w.heap.size (ts.length + (l'.length + 1)) (l.length + r.length) (ts.flatMap T.cells ++ (x :: l').flatMap T.cells) rfl O1.out lb' 0 cb' [] rfl rfl HC2.out (by simp) (by simp) (by omega) ?_; intro w2 own2 grow2; simp only [List.append_nil, Nat.add_zero] at own2; have B2 := Lib.hid (B1.out.grown grow2 (by have := G1.out.size; have := HR.out.size; omega) (by simp))))
        go_ret
        rw [HLEN.out] at own2
        refine ⟨by rw [HLEN.out]; rfl, ?_, B2.out⟩
        rw [HR.out.eq, mergeG_nil, List.flatMap_append]
        exact own2
      ·
        have hlen : ts.length + (l'.length + 1) + (r'.length + 1) = l.length + r.length := by simpa using HR.out.len
        simp only [List.length_cons]
        obtain ⟨b, o, k1, n1, s1, la1, lc1, l1, da1, dc1, d1, rfl, hx, hix, x0, x1, x2, x3, x4⟩ := (HR.out.inl.then_ HR.out.below).five (i := 0) (by simp)
        obtain ⟨b2, o2, k2, n2, s2, la2, lc2, l2, da2, dc2, d2, rfl, hy, hiy, y0, y1, y2, y3, y4⟩ := (HR.out.inr.then_ HR.out.below).five (i := 0) (by simp)
        simp only [List.getElem?_cons_zero, Option.some.injEq] at hx hy
        subst hx hy
        simp only [Nat.zero_mul, Nat.add_zero] at x0 x1 x2 x3 x4 y0 y1 y2 y3 y4
        have H := Lib.hid (fun w => compare_any _ _ w (HR.out.okl _ (List.mem_cons_self ..)) (HR.out.okr _ (List.mem_cons_self ..)))
        have HS := Lib.hid (mergeT_step (.mk k1 n1 s1 la1 lc1 l1 da1 dc1 d1) (.mk k2 n2 s2 la2 lc2 l2 da2 dc2 d2) l' r')
        generalize hcv : cmpV (T.mk k1 n1 s1 la1 lc1 l1 da1 dc1 d1).val (T.mk k2 n2 s2 la2 lc2 l2 da2 dc2 d2).val = cv at H HS
        clear hcv
        by_cases hc : cv ≤ 0
        · replace HS := Lib.hid (HS.out.trans (if_pos hc))
          go_wp2_with fail
          go_still_tail 7, (by kernel_rfl)
          change wpList _ _ _ _ _ wr.drew
          go_wp2_with (go_at_call 21; refine (H.out wr.drew hix hiy).mono ?_; rintro e w1 ⟨rfl, b0⟩; have b1 : Below wr.heap.size wr w1 := ⟨b0.os, b0.tape, b0.output, b0.size, b0.block⟩; clear b0)
          have hca : l'.length + 1 ≤ ca' := HR.out.capl.1
          have hcb : ca' ≤ 9223372036854775807 := HR.out.capl.2.1
          have hj1 : (1 : Int) ≤ (l'.length : Int) + 1 := by omega
          have hlt : ts.length + 1 ≤ l.length + r.length := by omega
          have HLEN := Lib.hid hlen
          clear hlen
          have X0 := (b1.cell (cell_lt x0)).trans x0
          have X1 := (b1.cell (cell_lt x1)).trans x1
          have X2 := (b1.cell (cell_lt x2)).trans x2
          have X3 := (b1.cell (cell_lt x3)).trans x3
          have X4 := (b1.cell (cell_lt x4)).trans x4
          have HB1 := Lib.hid b1
          clear x0 x1 x2 x3 x4 y0 y1 y2 y3 y4 hix hiy b1 H
          by_cases hc1 : ca' = 1
          · go_region_law (refine step_append_fits rfl (.tmp 31) (.tmp 35) 22 rfl w.heap.size 25 i0 5 Tryd.underlying22 I0.out.1 I0.out.2 w.heap.size ts.length (l.length + r.length) (ts.flatMap T.cells) (by simp [Act.eval]) (((row_keep HR.out.row HB1.out).drew).alloc _) ⟨w1.heap.size, 0, none⟩ 1 1 [.int .i64 k1, .int .i64 n1, .string s1, .slice la1 l1.length lc1, .slice da1 d1.length dc1] (by simp [Act.eval]) rfl (news_at _ _ _ _ (by simp)) (by simp [Value.oneCell']) (by omega) ?_; intro w2 hown2 hgrow2)
            all_goals
              simp only [List.getElem_toArray, List.getElem_cons_succ, List.getElem_cons_zero, Act.put, List.setIfInBounds_toArray, List.set_cons_succ, List.set_cons_zero]
              have HS2 := Lib.hid (merge_stepL (a := some ⟨b, o, none⟩) (ca' := 0) HR.out HS.out (by have h0 : l' = [] := List.eq_nil_of_length_eq_zero (by omega); rw [h0]; exact InL.nil _) ⟨by omega, by omega, by simp⟩ (below_drew_alloc HB1.out _) hown2 hgrow2)
              go_roundw
              case rel =>
                repeat apply Exists.intro
                exact ⟨⟨l', _, ts ++ [_], some ⟨b, o, none⟩, _, 0, _, by simp, rfl, by simp, HS2.out⟩, rfl⟩
              case measure => simp [lenOf]
          · go_region_law (refine step_append_fits rfl (.tmp 31) (.tmp 35) 22 rfl w.heap.size 25 i0 5 Tryd.underlying22 I0.out.1 I0.out.2 w.heap.size ts.length (l.length + r.length) (ts.flatMap T.cells) (by simp [Act.eval]) (((row_keep HR.out.row HB1.out).drew).alloc _) ⟨w1.heap.size, 0, none⟩ 1 1 [.int .i64 k1, .int .i64 n1, .string s1, .slice la1 l1.length lc1, .slice da1 d1.length dc1] (by simp [Act.eval]) rfl (news_at _ _ _ _ (by simp)) (by simp [Value.oneCell']) (by omega) ?_; intro w2 hown2 hgrow2)
            all_goals
              simp only [List.getElem_toArray, List.getElem_cons_succ, List.getElem_cons_zero, Act.put, List.setIfInBounds_toArray, List.set_cons_succ, List.set_cons_zero]
              have HS2 := Lib.hid (merge_stepL (a := some ⟨b, o + 5, none⟩) (ca' := ca' - 1) HR.out HS.out (HR.out.inl.tail) ⟨by omega, by omega, by simp⟩ (below_drew_alloc HB1.out _) hown2 hgrow2)
              go_roundw
              case rel =>
                repeat apply Exists.intro
                exact ⟨⟨l', _, ts ++ [_], some ⟨b, o + 5, none⟩, _, ca' - 1, _, by simp, rfl, by simp, HS2.out⟩, rfl⟩
              case measure => simp [lenOf]
        · replace HS := Lib.hid (HS.out.trans (if_neg hc))
          go_wp2_with fail
          go_still_tail 7, (by kernel_rfl)
          change wpList _ _ _ _ _ wr.drew
          go_wp2_with (go_at_call 21; refine (H.out wr.drew hix hiy).mono ?_; rintro e w1 ⟨rfl, b0⟩; have b1 : Below wr.heap.size wr w1 := ⟨b0.os, b0.tape, b0.output, b0.size, b0.block⟩; clear b0)
          have hca : r'.length + 1 ≤ cb' := HR.out.capr.1
          have hcb : cb' ≤ 9223372036854775807 := HR.out.capr.2.1
          have hj1 : (1 : Int) ≤ (r'.length : Int) + 1 := by omega
          have hlt : ts.length + 1 ≤ l.length + r.length := by omega
          have HLEN := Lib.hid hlen
          clear hlen
          have X0 := (b1.cell (cell_lt y0)).trans y0
          have X1 := (b1.cell (cell_lt y1)).trans y1
          have X2 := (b1.cell (cell_lt y2)).trans y2
          have X3 := (b1.cell (cell_lt y3)).trans y3
          have X4 := (b1.cell (cell_lt y4)).trans y4
          have HB1 := Lib.hid b1
          clear x0 x1 x2 x3 x4 y0 y1 y2 y3 y4 hix hiy b1 H
          by_cases hc1 : cb' = 1
          · go_region_law (refine step_append_fits rfl (.tmp 39) (.tmp 43) 22 rfl w.heap.size 25 i0 5 Tryd.underlying22 I0.out.1 I0.out.2 w.heap.size ts.length (l.length + r.length) (ts.flatMap T.cells) (by simp [Act.eval]) (((row_keep HR.out.row HB1.out).drew).alloc _) ⟨w1.heap.size, 0, none⟩ 1 1 [.int .i64 k2, .int .i64 n2, .string s2, .slice la2 l2.length lc2, .slice da2 d2.length dc2] (by simp [Act.eval]) rfl (news_at _ _ _ _ (by simp)) (by simp [Value.oneCell']) (by omega) ?_; intro w2 hown2 hgrow2)
            all_goals
              simp only [List.getElem_toArray, List.getElem_cons_succ, List.getElem_cons_zero, Act.put, List.setIfInBounds_toArray, List.set_cons_succ, List.set_cons_zero]
              have HS2 := Lib.hid (merge_stepR (a := some ⟨b2, o2, none⟩) (cb' := 0) HR.out HS.out (by have h0 : r' = [] := List.eq_nil_of_length_eq_zero (by omega); rw [h0]; exact InL.nil _) ⟨by omega, by omega, by simp⟩ (below_drew_alloc HB1.out _) hown2 hgrow2)
              go_roundw
              case rel =>
                repeat apply Exists.intro
                exact ⟨⟨_, r', ts ++ [_], _, some ⟨b2, o2, none⟩, _, 0, rfl, by simp, by simp, HS2.out⟩, rfl⟩
              case measure => simp [lenOf]
          · go_region_law (refine step_append_fits rfl (.tmp 39) (.tmp 43) 22 rfl w.heap.size 25 i0 5 Tryd.underlying22 I0.out.1 I0.out.2 w.heap.size ts.length (l.length + r.length) (ts.flatMap T.cells) (by simp [Act.eval]) (((row_keep HR.out.row HB1.out).drew).alloc _) ⟨w1.heap.size, 0, none⟩ 1 1 [.int .i64 k2, .int .i64 n2, .string s2, .slice la2 l2.length lc2, .slice da2 d2.length dc2] (by simp [Act.eval]) rfl (news_at _ _ _ _ (by simp)) (by simp [Value.oneCell']) (by omega) ?_; intro w2 hown2 hgrow2)
            all_goals
              simp only [List.getElem_toArray, List.getElem_cons_succ, List.getElem_cons_zero, Act.put, List.setIfInBounds_toArray, List.set_cons_succ, List.set_cons_zero]
              have HS2 := Lib.hid (merge_stepR (a := some ⟨b2, o2 + 5, none⟩) (cb' := cb' - 1) HR.out HS.out (HR.out.inr.tail) ⟨by omega, by omega, by simp⟩ (below_drew_alloc HB1.out _) hown2 hgrow2)
              go_roundw
              case rel =>
                repeat apply Exists.intro
                exact ⟨⟨_, r', ts ++ [_], _, some ⟨b2, o2 + 5, none⟩, _, cb' - 1, rfl, by simp, by simp, HS2.out⟩, rfl⟩
              case measure => simp [lenOf]
end Go.Proofs.YtlmlehjfockkpaaDoor
