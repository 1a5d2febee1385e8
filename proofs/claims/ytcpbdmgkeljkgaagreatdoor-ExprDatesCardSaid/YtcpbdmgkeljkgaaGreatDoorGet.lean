/- The contracts of Get and of what it calls: no statement is proved here. -/
import Derived.Test.YtcpbdmgkeljkgaaGreatDoorClone
namespace Go.Proofs.YtcpbdmgkeljkgaaGreatDoor
open Go.RowKit
set_option maxRecDepth 100000

/-- Where the first field of that name stands, counted from i. -/
def idxD : List (ByteArray × V) → ByteArray → Nat → Int
  | [], _, _ => -1
  | (f, _) :: r, s, i => if f.toList == s.toList then i else idxD r s (i + 1)
theorem idxD_step {l : List (ByteArray × V)} {s : ByteArray} {k : Nat} {x : ByteArray × V} (hx : l[k]? = some x) : idxD (l.drop k) s k = if x.1.toList == s.toList then (k : Int) else idxD (l.drop (k + 1)) s (k + 1) := by
  obtain ⟨h1, rfl⟩ := List.getElem?_eq_some_iff.1 hx
  rw [List.drop_eq_getElem_cons h1, idxD]
theorem idxD_done {l : List (ByteArray × V)} {s : ByteArray} {k : Nat} (h : l.length ≤ k) : idxD (l.drop k) s k = -1 := by rw [List.drop_eq_nil_of_le h, idxD]

theorem named_any (f : ByteArray × T) (q : Addr) (s : ByteArray) (w : World) (hq : w.cell? q = some (.string s)) :
    Calls Tryz.prog 173 #[farg f, .pointer (some q)] w fun e w' => e = .returned (.bool (f.1.toList == s.toList)) ∧ Below w.heap.size w w' := by
  obtain ⟨fx, kx, nx, sx, lax, lcx, lx, dax, dcx, dx⟩ := f
  show Calls _ _ #[.agg #[.string fx, .int .i64 kx, .int .i64 nx, .string sx, .slice lax lx.length lcx, .slice dax dx.length dcx], .pointer (some q)] _ _
  have hlt := cell_lt hq
  have hq2 : ∀ o, (w.alloc o).cell? q = some (.string s) := fun o => ((below1 w o).cell hlt).trans hq
  go_enter Tryz.func173, Tryz.ntmps173
  go_wp2_with fail
  go_ret
  exact ⟨rfl, below1 _ _⟩

set_option maxHeartbeats 1000000 in
theorem indexFunc_any (la : Option Addr) (ca : Nat) (l : List (ByteArray × T)) (q : Addr) (s : ByteArray) (w : World) (hq : w.cell? q = some (.string s)) (ha : InD w la l) (hl : l.length ≤ 1759218604390) :
    Calls Tryz.prog 172 #[.slice la l.length ca, .func (.func 173) #[] #[.pointer (some q)]] w fun e w' => e = .returned (.int .i64 (idxD (l.map fun f => (f.1, f.2.val)) s 0)) ∧ Below w.heap.size w w' := by
  go_enter Tryz.func172, Tryz.ntmps172
  go_wp2_with fail
  go_loopw [5, 8] (fun _ i wr => ∃ k : Nat, k ≤ l.length ∧ i = .int .i64 k ∧ Below w.heap.size w wr ∧ idxD (l.map fun f => (f.1, f.2.val)) s 0 = idxD ((l.map fun f => (f.1, f.2.val)).drop k) s k) (fun _ i _ => l.length - (intOf i).toNat)
  case atStart => exact ⟨0, by omega, rfl, Below.refl _ _, by simp⟩
  case round =>
    obtain ⟨k, hk, rfl, hbel, heq⟩ := hrel
    have HH := Lib.hid heq
    clear heq
    by_cases h1 : k < l.length
    · obtain ⟨b, o, fx, kx, nx, sx, lax, lcx, lx, dax, dcx, dx, rfl, hx, hix, x0, x1, x2, x3, x4, x5⟩ := (ha.then_ hbel).six h1
      have hx2 : (l.map fun f => (f.1, f.2.val))[k]? = some (fx, (T.mk kx nx sx lax lcx lx dax dcx dx).val) := by rw [List.getElem?_map, hx]; rfl
      have HT := Lib.hid (idxD_step (s := s) hx2)
      have hq1 : wr.cell? q = some (.string s) := (hbel.cell (cell_lt hq)).trans hq
      have HN := fun w h => named_any (fx, T.mk kx nx sx lax lcx lx dax dcx dx) q s w h
      replace HN := Lib.hid HN
      clear hx hx2 ha
      go_wp2_with (go_at_call 173; refine (HN.out _ hq1).mono ?_; rintro e w1 ⟨rfl, hb1⟩)
      · go_ret
        have ht := ‹(_ == _) = true›
        exact ⟨ret_int (by rw [HH.out, HT.out, if_pos ht]), below_then hbel hb1⟩
      · have ht := ‹(_ == _) = false›
        go_roundw
        case rel => exact ⟨k + 1, by omega, by go_num, below_then hbel hb1, by rw [HH.out, HT.out, if_neg (by simp [ht])]⟩
        case measure => simp [intOf]; omega
    · go_wp2_with fail
      go_ret
      exact ⟨ret_int (by rw [HH.out, idxD_done (by simp; omega)]), hbel⟩

/-- Where a value's first field of that name stands; -1, where there is none. -/
def placeV : V → ByteArray → Int
  | .mk k _ _ _ d, s => if k = 5 then idxD d s 0 else -1
theorem place_any (t : T) (ok : t.ok) (s : ByteArray) (w : World) (hin : t.In w) : Calls Tryz.prog 114 #[t.arg, .string s] w fun e w' => e = .returned (.int .i64 (placeV t.val s)) ∧ Below w.heap.size w w' := by
  obtain ⟨kx, nx, sx, lax, lcx, lx, dax, dcx, dx⟩ := t
  show Calls _ _ #[.agg #[.int .i64 kx, .int .i64 nx, .string sx, .slice lax lx.length lcx, .slice dax dx.length dcx], .string s] _ _
  rw [T.val_mk, placeV]
  obtain ⟨-, -, -, -, hs, hl1, hl2, hd1, hd2, okl, okd⟩ := ok.parts
  by_cases h5 : kx = 5
  · subst h5
    have HI := fun w1 q h1 h2 => indexFunc_any dax dcx dx q s w1 h1 h2 (by omega)
    replace HI := Lib.hid HI
    rw [if_pos rfl]
    clear okl okd ok
    go_enter Tryz.func114, Tryz.ntmps114
    go_wp2_with (go_at_call 172; refine (HI.out _ _ ?_ ?_).mono ?_; (simp [go_sem]); (exact hin.parts.2.then_ (below2 _ _ _)); rintro e w1 ⟨rfl, hb1⟩)
    go_ret
    exact ⟨rfl, below_then (below2 _ _ _) hb1⟩
  · have h5b : ((kx : Int) != 5) = true := by simp [h5]
    rw [if_neg h5]
    clear h5
    go_enter Tryz.func114, Tryz.ntmps114
    go_wp2_with fail
    go_ret
    exact ⟨rfl, below2 _ _ _⟩

/-- The first field of that name. -/
def findD : List (ByteArray × V) → ByteArray → Option V
  | [], _ => none
  | (f, x) :: r, s => if f.toList == s.toList then some x else findD r s
def getV : V → ByteArray → Option V
  | .mk k _ _ _ d, s => if k = 5 then findD d s else none
theorem idxD_find (l : List (ByteArray × V)) (s : ByteArray) : ∀ i : Nat, (idxD l s i = -1 ∧ findD l s = none) ∨ (∃ (j : Nat) (x : ByteArray × V), idxD l s i = ((i + j : Nat) : Int) ∧ l[j]? = some x ∧ findD l s = some x.2) := by
  induction l with
  | nil => intro i; exact .inl ⟨rfl, rfl⟩
  | cons y r ih =>
    obtain ⟨f, x⟩ := y
    intro i
    simp only [idxD, findD]
    by_cases h : (f.toList == s.toList) = true
    · exact .inr ⟨0, (f, x), by simp [h], rfl, by simp [h]⟩
    · rw [if_neg h, if_neg h]
      rcases ih (i + 1) with h1 | ⟨j, y, h1, h2, h3⟩
      · exact .inl h1
      · exact .inr ⟨j + 1, y, by rw [h1]; omega, by simpa using h2, h3⟩

theorem T.Own.keep {w w' : World} {B B' : Nat} {t : T} {S : List Nat} (h : t.Own w B) (ho : Only S w w') (hS : ∀ b ∈ S, b < B) (hB : B' ≤ B) : t.Own w' B' :=
  ⟨h.ok, (h.owns.only ho (fun b hb hs => by have := (owns_lt h.owns b hb).1; have := hS b hs; omega)).base hB, h.nodup⟩
/-- Five cells written into a block. -/
theorem only_set5 (w : World) (g : Nat) (a b c d e : Value) : Only [g] w (((((w.setCell ⟨g, 0, none⟩ a).setCell ⟨g, 1, none⟩ b).setCell ⟨g, 2, none⟩ c).setCell ⟨g, 3, none⟩ d).setCell ⟨g, 4, none⟩ e) :=
  (((((Only.refl [g] w).setCell (p := ⟨g, 0, none⟩) (.inl (by simp)) a).setCell (p := ⟨g, 1, none⟩) (.inl (by simp)) b).setCell (p := ⟨g, 2, none⟩) (.inl (by simp)) c).setCell (p := ⟨g, 3, none⟩) (.inl (by simp)) d).setCell (p := ⟨g, 4, none⟩) (.inl (by simp)) e
/-- Get yields nothing, or a value in memory of its own. -/
def GetsTo (v : V) (s : ByteArray) (w : World) (e : Ending) (w' : World) : Prop :=
  (getV v s = none ∧ e = .returned (.tuple #[.agg #[.int .i64 0, .int .i64 0, .string ⟨#[]⟩, .slice none 0 0, .slice none 0 0], .bool false]) ∧ Below w.heap.size w w') ∨
  (∃ t' : T, getV v s = some t'.val ∧ e = .returned (.tuple #[t'.arg, .bool true]) ∧ t'.Own w' w.heap.size ∧ Below w.heap.size w w')
set_option maxHeartbeats 1000000 in
theorem get_any (t : T) (ok : t.ok) (s : ByteArray) (w : World) (hin : t.In w) : Calls Tryz.prog 69 #[t.arg, .string s] w (GetsTo t.val s w) := by
  have HP := fun w h => place_any t ok s w h
  replace HP := Lib.hid HP
  obtain ⟨kx, nx, sx, lax, lcx, lx, dax, dcx, dx⟩ := t
  show Calls _ _ #[.agg #[.int .i64 kx, .int .i64 nx, .string sx, .slice lax lx.length lcx, .slice dax dx.length dcx], .string s] _ _
  have HR : (placeV (T.mk kx nx sx lax lcx lx dax dcx dx).val s = -1 ∧ getV (T.mk kx nx sx lax lcx lx dax dcx dx).val s = none) ∨ ∃ (j : Nat) (x : ByteArray × T), placeV (T.mk kx nx sx lax lcx lx dax dcx dx).val s = (j : Int) ∧ dx[j]? = some x ∧ getV (T.mk kx nx sx lax lcx lx dax dcx dx).val s = some x.2.val := by
    rw [T.val_mk, placeV, getV]
    by_cases h5 : kx = 5
    · rw [if_pos h5, if_pos h5]
      rcases idxD_find (dx.map fun f => (f.1, f.2.val)) s 0 with h | ⟨j, x, h1, h2, h3⟩
      · exact .inl h
      · rw [List.getElem?_map, Option.map_eq_some_iff] at h2
        obtain ⟨y, hy, rfl⟩ := h2
        exact .inr ⟨j, y, by rw [h1]; simp, hy, h3⟩
    · rw [if_neg h5, if_neg h5]
      exact .inl ⟨rfl, rfl⟩
  obtain ⟨-, -, -, -, hs, hl1, hl2, hd1, hd2, okl, okd⟩ := ok.parts
  generalize hv : (T.mk kx nx sx lax lcx lx dax dcx dx).val = v at HP HR ⊢
  rcases HR with ⟨h1, h2⟩ | ⟨j, x, h1, hx, h2⟩
  · rw [h1] at HP
    have H2 := Lib.hid h2
    clear h1 h2 hv okl okd ok
    go_enter Tryz.func69, Tryz.ntmps69
    go_wp2_with (go_at_call 114; refine (HP.out _ ?_).mono ?_; (exact hin.then_ (below2 _ _ _)); rintro e w1 ⟨rfl, hb1⟩; have hc1 : ∀ b o, b < w.heap.size + 2 → w1.cell? ⟨b, o, none⟩ = _ := fun b o h => hb1.cell (p := ⟨b, o, none⟩) (by simpa using h); have hf1 : ∀ b o, b < w.heap.size + 2 → w1.frozen? ⟨b, o, none⟩ = _ := fun b o h => hb1.frozen (p := ⟨b, o, none⟩) (by simpa using h); have hz1 : w.heap.size + 2 ≤ w1.heap.size := (by have := hb1.size; simpa using this))
    refine bodyPost_ret (v := .tuple #[.agg #[.int .i64 0, .int .i64 0, .string ⟨#[]⟩, .slice none 0 0, .slice none 0 0], .bool false]) (by simp [results, Tryz.results69, go_sem, hc1]) rfl (.inl ⟨H2.out, rfl, ?_⟩)
    have hb2 := below_then (below2 _ _ _) hb1
    exact ((((hb2.setCell (by simp) _).setCell (by simp) _).setCell (by simp) _).setCell (by simp) _).setCell (by simp) _
  · rw [h1] at HP
    obtain ⟨hj, _⟩ := List.getElem?_eq_some_iff.1 hx
    have HC := Lib.hid (clone_any x.2 (okd x (List.mem_of_getElem? hx)).2)
    have HX := Lib.hid hx
    have H2 := Lib.hid h2
    clear h1 h2 hv okl okd ok
    obtain ⟨b, o, fx, k', n', s', la', lc', l', da', dc', d', hda, hx', -, -⟩ := hin.parts.2.six hj
    subst hda
    have ex := hx.symm.trans hx'
    simp only [Option.some.injEq] at ex
    subst ex
    have h0 : ¬ ((j : Int) < 0) := by omega
    clear hx hx'
    go_enter Tryz.func69, Tryz.ntmps69
    go_wp2_with (first
     | (go_at_call 114; refine (HP.out _ ?_).mono ?_; (exact hin.then_ (below2 _ _ _)); rintro e w1 ⟨rfl, hb1⟩; have hc1 : ∀ b o, b < w.heap.size + 2 → w1.cell? ⟨b, o, none⟩ = _ := fun b o h => hb1.cell (p := ⟨b, o, none⟩) (by simpa using h); have hf1 : ∀ b o, b < w.heap.size + 2 → w1.frozen? ⟨b, o, none⟩ = _ := fun b o h => hb1.frozen (p := ⟨b, o, none⟩) (by simpa using h); have hz1 : w.heap.size + 2 ≤ w1.heap.size := (by have := hb1.size; simpa using this); obtain ⟨b', o', fx2, k2, n2, s2, la2, lc2, l2, da2, dc2, d2, hb', hx2, hix, x0, x1, x2, x3, x4, x5⟩ := (hin.parts.2.then_ (below_then (below2 _ _ _) hb1)).six hj; cases hb'; cases HX.out.symm.trans hx2; clear hx2)
     | (go_at_call 17; refine (HC.out _ hix).mono ?_; rintro e w2 ⟨⟨k3, n3, s3, la3, lc3, l3, da3, dc3, d3⟩, rfl, hv2, ho2, hb2⟩; dsimp only [T.arg, T.cells]; have hc2 : ∀ b o, b < w.heap.size + 2 → w2.cell? ⟨b, o, none⟩ = _ := fun b o h => hb2.cell (p := ⟨b, o, none⟩) (by simp; omega); have hf2 : ∀ b o, b < w.heap.size + 2 → w2.frozen? ⟨b, o, none⟩ = _ := fun b o h => hb2.frozen (p := ⟨b, o, none⟩) (by simp; omega)))
    refine bodyPost_ret (v := .tuple #[.agg #[.int .i64 k3, .int .i64 n3, .string s3, .slice la3 l3.length lc3, .slice da3 d3.length dc3], .bool true]) (by simp [results, Tryz.results69, go_sem, hc2, hc1]) rfl (.inr ⟨.mk k3 n3 s3 la3 lc3 l3 da3 dc3 d3, by rw [H2.out, hv2], rfl, ?_, ?_⟩)
    · exact ho2.keep (only_set5 w2 (w.heap.size + 1) _ _ _ _ _) (by simp; omega) (by omega)
    · exact ((Only.of_below (S := []) (below_then (below_then (below2 _ _ _) hb1) hb2)).then_ (only_set5 w2 (w.heap.size + 1) _ _ _ _ _) (by simp)).below
end Go.Proofs.YtcpbdmgkeljkgaaGreatDoor
