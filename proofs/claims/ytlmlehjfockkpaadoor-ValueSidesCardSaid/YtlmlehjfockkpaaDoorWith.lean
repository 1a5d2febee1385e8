/- The contract of With: no statement is proved here. -/
import Derived.Test.YtlmlehjfockkpaaDoorPut
import Derived.Deep.RegionLaw
import Derived.Test.YtlmlehjfockkpaaDoorLent
namespace Go.Proofs.YtlmlehjfockkpaaDoor
open Go.RowKit
set_option maxRecDepth 100000

def zeroV : V := .mk 0 0 ⟨#[]⟩ [] []
def zeroT : T := .mk 0 0 ⟨#[]⟩ none 0 [] none 0 []
theorem zero_val : zeroT.val = zeroV := by simp [zeroT, zeroV, T.val_mk]
theorem zero_own (w : World) (B : Nat) : zeroT.Own w B := by
  refine ⟨by simp [zeroT, T.ok, T.okL, T.okD, okInt, okLen, okFar, ByteArray.size], fun r hr => ?_, by simp [zeroT, T.rows, T.rowsL, T.rowsD, blocksOf, Value.ownBlock]⟩
  simp [zeroT, T.rows, T.rowsL, T.rowsD] at hr
  rcases hr with rfl | rfl <;> exact World.ownsRow_nil _ _ _ _
def putD : List (ByteArray × V) → ByteArray → V → List (ByteArray × V)
  | [], s, y => [(s, y)]
  | (f, x) :: r, s, y => if f.toList == s.toList then (f, y) :: r else (f, x) :: putD r s y
def withV : V → ByteArray → V → V
  | .mk k n t l d, s, y => if k = 5 then .mk 5 n t l (putD d s y) else zeroV
theorem idxD_put (d : List (ByteArray × T)) (s : ByteArray) (y : V) : ∀ i : Nat, (idxD (d.map fun f => (f.1, f.2.val)) s i = -1 ∧ putD (d.map fun f => (f.1, f.2.val)) s y = (d.map fun f => (f.1, f.2.val)) ++ [(s, y)]) ∨
    (∃ (d1 d2 : List (ByteArray × T)) (f : ByteArray) (x : T), d = d1 ++ (f, x) :: d2 ∧ idxD (d.map fun f => (f.1, f.2.val)) s i = ((i + d1.length : Nat) : Int) ∧ putD (d.map fun f => (f.1, f.2.val)) s y = (d1.map fun f => (f.1, f.2.val)) ++ (f, y) :: (d2.map fun f => (f.1, f.2.val))) := by
  induction d with
  | nil => intro i; exact .inl ⟨rfl, rfl⟩
  | cons z r ih =>
    obtain ⟨f, x⟩ := z
    intro i
    simp only [List.map_cons, idxD, putD]
    by_cases h : (f.toList == s.toList) = true
    · exact .inr ⟨[], r, f, x, rfl, by simp [h], by simp [h]⟩
    · rw [if_neg h, if_neg h]
      rcases ih (i + 1) with ⟨h1, h2⟩ | ⟨d1, d2, f', x', h1, h2, h3⟩
      · exact .inl ⟨h1, by rw [h2]; rfl⟩
      · exact .inr ⟨(f, x) :: d1, d2, f', x', by rw [h1]; rfl, by rw [h2]; simp; omega, by rw [h3]; rfl⟩

/-- A field more, in a row that has grown or moved. -/
theorem own_addD {w w1 w2 : World} {B B1 : Nat} {k n : Int} {s : ByteArray} {la : Option Addr} {lc : Nat} {l : List T} {da : Option Addr} {dc g cap : Nat} {d : List (ByteArray × T)} {f : ByteArray} {y : T}
    (h : T.Own w B (.mk k n s la lc l da dc d)) (hy : y.Own w1 B1) (hb : Below w.heap.size w w1) (hB : w.heap.size ≤ B1) (hB0 : B ≤ B1)
    (hf : okLen f.size) (hl : okFar ((d.length + 1) * 96)) (hc : cap ≤ 9223372036854775807)
    (hrow : w2.ownsRow B 63 6 (.slice (some ⟨g, 0, none⟩) (d.length + 1) cap) (d.length + 1) (d.flatMap fcells ++ fcells (f, y))) (hg : w1.grownBy w2 (Value.slice da d.length dc).ownBlock) (hd : (Value.slice da d.length dc).ownBlock = some g ∨ w1.heap.size ≤ g) :
    T.Own w2 B (.mk k n s la lc l (some ⟨g, 0, none⟩) cap (d ++ [(f, y)])) := by
  obtain ⟨ok, owns, nodup⟩ := h
  have o1 := owns.below hb
  rw [rows_mk] at o1 nodup owns
  have hlt := owns_lt owns
  have hsub : (⟨25, 5, .slice la l.length lc, l.length, l.flatMap T.cells⟩ :: (l.flatMap T.rows ++ d.flatMap fun f => f.2.rows) : List Row).Sublist
      (⟨25, 5, .slice la l.length lc, l.length, l.flatMap T.cells⟩ :: ⟨63, 6, .slice da d.length dc, d.length, d.flatMap fcells⟩ :: (l.flatMap T.rows ++ d.flatMap fun f => f.2.rows)) :=
    (List.Sublist.cons _ (List.Sublist.refl _)).cons_cons _
  have hnd := nodup.sublist (blocks_sub hsub)
  have howd : ∀ g', (Value.slice da d.length dc).ownBlock = some g' → g' ∉ blocksOf (⟨25, 5, .slice la l.length lc, l.length, l.flatMap T.cells⟩ :: (l.flatMap T.rows ++ d.flatMap fun f => f.2.rows) : List Row) ∧ g' < w.heap.size := by
    intro g' hg'
    have hp : (⟨25, 5, .slice la l.length lc, l.length, l.flatMap T.cells⟩ :: ⟨63, 6, .slice da d.length dc, d.length, d.flatMap fcells⟩ :: (l.flatMap T.rows ++ d.flatMap fun f => f.2.rows) : List Row).Perm
        (⟨63, 6, .slice da d.length dc, d.length, d.flatMap fcells⟩ :: ⟨25, 5, .slice la l.length lc, l.length, l.flatMap T.cells⟩ :: (l.flatMap T.rows ++ d.flatMap fun f => f.2.rows)) := List.Perm.swap _ _ _
    have h1 := (hp.filterMap (fun r : Row => r.v.ownBlock)).nodup_iff.1 nodup
    rw [List.filterMap_cons] at h1
    simp only [hg'] at h1
    exact ⟨(List.nodup_cons.1 h1).1, (hlt g' (List.mem_filterMap.2 ⟨_, List.mem_cons_of_mem _ (List.mem_cons_self ..), hg'⟩)).2⟩
  have hrest0 : Owns w B (⟨25, 5, .slice la l.length lc, l.length, l.flatMap T.cells⟩ :: (l.flatMap T.rows ++ d.flatMap fun f => f.2.rows)) := fun r hr => owns r (hsub.subset hr)
  have hrest : Owns w1 B (⟨25, 5, .slice la l.length lc, l.length, l.flatMap T.cells⟩ :: (l.flatMap T.rows ++ d.flatMap fun f => f.2.rows)) := fun r hr => o1 r (hsub.subset hr)
  have hkeep : ∀ {R : List Row} {B' : Nat}, Owns w1 B' R → (∀ b ∈ blocksOf R, some b ≠ (Value.slice da d.length dc).ownBlock) → Owns w2 B' R := fun hR hn => hR.keep fun b hb => hg.block b (owns_lt hR b hb).2 (hn b hb)
  have hrest2 := hkeep hrest (fun b hb e => (howd b e.symm).1 hb)
  have hy2 := hkeep hy.owns (fun b hb e => by have := (howd b e.symm).2; have := (owns_lt hy.owns b hb).1; omega)
  have hgn : g ∉ blocksOf (⟨25, 5, .slice la l.length lc, l.length, l.flatMap T.cells⟩ :: (l.flatMap T.rows ++ d.flatMap fun f => f.2.rows)) := fun hc => by
    rcases hd with hd | hd
    · exact (howd g hd).1 hc
    · have := (owns_lt hrest g hc).2; omega
  have hgy : g ∉ blocksOf y.rows := fun hc => by
    rcases hd with hd | hd
    · have := (howd g hd).2; have := (owns_lt hy.owns g hc).1; omega
    · have := (owns_lt hy.owns g hc).2; omega
  have hall : (T.rows (.mk k n s la lc l (some ⟨g, 0, none⟩) cap (d ++ [(f, y)]))).Perm
      (⟨63, 6, .slice (some ⟨g, 0, none⟩) (d.length + 1) cap, d.length + 1, d.flatMap fcells ++ fcells (f, y)⟩ :: ((⟨25, 5, .slice la l.length lc, l.length, l.flatMap T.cells⟩ :: (l.flatMap T.rows ++ d.flatMap fun f => f.2.rows)) ++ y.rows)) := by
    rw [rows_mk]
    refine (List.Perm.swap _ _ _).trans ?_
    simp only [List.length_append, List.length_singleton, List.flatMap_append, List.flatMap_cons, List.flatMap_nil, List.append_nil, List.cons_append, List.append_assoc]
    exact List.Perm.refl _
  refine ⟨?_, ?_, ?_⟩
  · simp only [T.ok, T.okL_iff, T.okD_iff] at ok ⊢
    obtain ⟨q1, q2, q3, q4, q5, q6, q7, q8, q9, q10, q11⟩ := ok
    have hcap : d.length + 1 ≤ cap := by
      obtain ⟨_, h2⟩ := hrow
      rcases h2 with ⟨hv, _⟩ | ⟨g', cap', cur, hv, hb, hg, hkc, _⟩
      · cases hv
      · injection hv with _ _ e3; omega
    refine ⟨q1, q2, q3, q4, q5, q6, ⟨by simpa using hcap, hc⟩, by simpa using hl, by simp, q10, fun z hz => ?_⟩
    rcases List.mem_append.1 hz with hz | hz
    · exact q11 z hz
    · simp at hz; subst hz; exact ⟨hf, hy.ok⟩
  · intro r hr
    rcases List.mem_cons.1 (hall.mem_iff.1 hr) with rfl | hr
    · exact hrow
    · rcases List.mem_append.1 hr with hr | hr
      · exact hrest2 r hr
      · exact (hy2.base hB0) r hr
  · refine (hall.filterMap _).nodup_iff.2 ?_
    rw [List.filterMap_cons]
    simp only [Value.ownBlock]
    refine List.nodup_cons.2 ⟨fun hc => ?_, nodup_behind hrest0 hy.owns hB hnd hy.nodup⟩
    have hc2 : g ∈ blocksOf ((⟨25, 5, .slice la l.length lc, l.length, l.flatMap T.cells⟩ :: (l.flatMap T.rows ++ d.flatMap fun f => f.2.rows)) ++ y.rows) := hc
    rw [blocksOf_append] at hc2
    rcases List.mem_append.1 hc2 with hc | hc
    · exact hgn hc
    · exact hgy hc

/-- A call of a Go function, as one step of a region that draws. -/
theorem step_enter {P : Program} {ops : Array Oper} {o : Oper} {a : Act} {w : World} {K : Act → World → Prop} {Q : Exit → Act → World → Prop} {E : Prop} (hgd : o.guard = none) (f : FuncId) (args : Array Value)
    (hrun : (execOp a.eval o).run P w = .ok (.enter f args) w) (h : Calls P f args w fun e w' => ∃ v, e = .returned v ∧ K (a.put o.dst v) w') :
    if Region.wanted o (yielded ops a.tmps) = true then Oper.wp P o a w K Q else E := by
  have hw : Region.wanted o (yielded ops a.tmps) = true := by simp [Region.wanted, hgd]
  rw [if_pos hw]
  unfold Oper.wp
  rw [hrun, Oper.upon_enter]
  refine h.mono ?_
  rintro e w' ⟨v, rfl, hk⟩
  exact hk

/-- With yields a value in memory of its own. -/
def WithTo (v : V) (w : World) (e : Ending) (w' : World) : Prop := ∃ t' : T, e = .returned t'.arg ∧ t'.val = v ∧ t'.Own w' w.heap.size ∧ Below w.heap.size w w'
/-- The four boxes of With. -/
structure WithBox (w wr : World) (X : List Value) (g : Nat) (O : List Value) : Prop where
  below : Below w.heap.size w wr
  box2 : wr.heap[w.heap.size + 1]? = some (.cells X.toArray 25 (0, 0))
  box3 : wr.heap[w.heap.size + 2]? = some (.cells #[.int .i64 0, .int .i64 0, .string ⟨#[]⟩, .slice none 0 0, .slice none 0 0] 25 (0, 0))
  box4 : wr.heap[g]? = some (.cells O.toArray 25 (0, 0))
theorem WithBox.only {w wr w' : World} {X O : List Value} {g : Nat} {S : List Nat} (h : WithBox w wr X g O) (ho : Only S wr w') (hS : ∀ b ∈ S, w.heap.size + 3 ≤ b ∧ b ≠ g) : WithBox w w' X g O :=
  ⟨((Only.of_below (S := []) h.below).then_ ho (fun i hi => .inr (by have := hS i hi; omega))).below, keep_row ho h.box2 (fun hc => by have := hS _ hc; omega), keep_row ho h.box3 (fun hc => by have := hS _ hc; omega), keep_row ho h.box4 (fun hc => (hS _ hc).2 rfl)⟩
theorem WithBox.then_ {w wr w' : World} {X O : List Value} {g : Nat} (h : WithBox w wr X g O) (hb : Below wr.heap.size wr w') : WithBox w w' X g O := h.only (Only.of_below (S := []) hb) (by simp)

theorem Only.of_grow {w w' : World} {row : Option Nat} (h : w.grownBy w' row) : Only row.toList w w' := ⟨h.os, h.tape, h.output, h.size, fun k hk hn => h.block k hk (fun e => hn (by rw [← e]; simp))⟩
theorem WithBox.grown {w wr w' : World} {X O : List Value} {g : Nat} {row : Option Nat} (h : WithBox w wr X g O) (hg : wr.grownBy w' row) (hr : ∀ b, row = some b → w.heap.size + 3 ≤ b ∧ b ≠ g) : WithBox w w' X g O :=
  h.only (Only.of_grow hg) (fun b hb => hr b (by simpa using hb))
theorem WithBox.start {w w1 : World} {A : Obj} {X O : List Value} (b : Below (((w.alloc A).alloc (.cells X.toArray 25)).alloc (.cells #[.int .i64 0, .int .i64 0, .string ⟨#[]⟩, .slice none 0 0, .slice none 0 0] 25)).heap.size (((w.alloc A).alloc (.cells X.toArray 25)).alloc (.cells #[.int .i64 0, .int .i64 0, .string ⟨#[]⟩, .slice none 0 0, .slice none 0 0] 25)) w1) :
    WithBox w (w1.alloc (.cells O.toArray 25)) X w1.heap.size O :=
  ⟨below_then (below_then (below3 _ _ _ _) b) (below1 _ _), row_then (row_then (row_then (heap_alloc2_new _ _ _) (below1 _ _)) b) (below1 _ _), row_then (row_then (heap_alloc_at _ _ _ (by simp)) b) (below1 _ _), heap_alloc_new _ _⟩
set_option maxHeartbeats 4000000 in
theorem with_any (t x : T) (s : ByteArray) (w : World) (ok : t.ok) (okx : x.ok) (hs : okLen s.size) (tight : t.val.room 1) (hin : t.In w) (hix : x.In w) :
    Calls Tryd.prog 24 #[t.arg, .string s, x.arg] w (WithTo (withV t.val s x.val) w) := by
  obtain ⟨i1, hi1, hy0, hy1, hy2⟩ := info_parts info_field
  have I1 := Lib.hid (And.intro hi1 (And.intro hy0 (And.intro hy1 hy2)))
  clear hi1 hy0 hy1 hy2
  have HC := Lib.hid (clone_any t ok)
  have HX := Lib.hid (clone_any x okx)
  have HI := Lib.hid hin
  have HIX := Lib.hid hix
  have HS := Lib.hid hs
  obtain ⟨kt, nt, st, lat, lct, lt, dat, dct, dt⟩ := t
  obtain ⟨kx, nx, sx, lax, lcx, lx, dax, dcx, dx⟩ := x
  have HROOM : Hid (okFar ((dt.length + 1) * 96)) := Lib.hid (by rw [T.room_mk] at tight; exact tight.1)
  clear ok okx hs tight hin hix
  show Calls _ _ #[.agg #[.int .i64 kt, .int .i64 nt, .string st, .slice lat lt.length lct, .slice dat dt.length dct], .string s, .agg #[.int .i64 kx, .int .i64 nx, .string sx, .slice lax lx.length lcx, .slice dax dx.length dcx]] _ _
  by_cases k5 : kt = 5
  · subst k5
    have HW := Lib.hid (show withV (T.mk 5 nt st lat lct lt dat dct dt).val s (T.mk kx nx sx lax lcx lx dax dcx dx).val = .mk 5 nt st (lt.map T.val) (putD (dt.map fun f => (f.1, f.2.val)) s (T.mk kx nx sx lax lcx lx dax dcx dx).val) by rw [T.val_mk 5, withV, if_pos rfl])
    generalize withV (T.mk 5 nt st lat lct lt dat dct dt).val s (T.mk kx nx sx lax lcx lx dax dcx dx).val = W at HW ⊢
    go_enter Tryd.func24, Tryd.ntmps24
    go_wp2_with fail
    refine (HC.out _ (HI.out.then_ (below3 _ _ _ _))).mono ?_
    rintro e w1 ⟨⟨k', n', s', la', lc', l', da', dc', d'⟩, rfl, hv1, ho1, b1⟩
    dsimp only [T.arg, T.cells]
    rw [T.val_mk, T.val_mk] at hv1
    injection hv1 with e1 e2 e3 vl vd
    subst e1 e2 e3
    have HO := Lib.hid (ho1.keep (B' := w.heap.size + 3) (Only.refl [] w1) (by simp) (by simp))
    have HB := Lib.hid (WithBox.start (O := [.int .i64 5, .int .i64 n', .string s', .slice la' l'.length lc', .slice da' d'.length dc']) b1)
    have z1 : w.heap.size + 3 ≤ w1.heap.size := by have := b1.size; simpa using this
    rw [← vl, ← vd] at HW
    have HP := Lib.hid (fun w h => place_any (.mk 5 n' s' la' lc' l' da' dc' d') ho1.ok s w h)
    have HD := Lib.hid (idxD_put d' s (T.mk kx nx sx lax lcx lx dax dcx dx).val 0)
    have HLEN := Lib.hid (show d'.length = dt.length by simpa using congrArg List.length vd)
    have HPV := Lib.hid (show placeV (T.mk 5 n' s' la' lc' l' da' dc' d').val s = idxD (d'.map fun f => (f.1, f.2.val)) s 0 by rw [T.val_mk, placeV, if_pos rfl])
    clear vl vd ho1 b1
    go_wp2_with fail
    refine (HP.out _ (HO.out.in_.then_ (below1 _ _))).mono ?_
    rintro e w2 ⟨rfl, b2⟩
    replace HB := Lib.hid (HB.out.then_ b2)
    have HO2 := Lib.hid (HO.out.keep (Only.of_below (S := []) (below_then (below1 _ _) b2)) (by simp) (Nat.le_refl _))
    have z2 : w1.heap.size + 1 ≤ w2.heap.size := by have := b2.size; simpa using this
    clear b2
    have ne1 : ¬ w1.heap.size = w.heap.size + 2 := by omega
    have ne2 : ¬ w.heap.size + 2 = w1.heap.size := by omega
    have k2 : ∀ o, w2.cell? ⟨w.heap.size + 1, o, none⟩ = (#[.int .i64 kx, .int .i64 nx, .string sx, .slice lax lx.length lcx, .slice dax dx.length dcx] : Array Value)[o]? := row_cells HB.out.box2
    have k4 : ∀ o, w2.cell? ⟨w1.heap.size, o, none⟩ = (#[.int .i64 5, .int .i64 n', .string s', .slice la' l'.length lc', .slice da' d'.length dc'] : Array Value)[o]? := row_cells HB.out.box4
    rcases HD.out with ⟨h1, h2⟩ | ⟨d1, d2, f, y, h1, h2, h3⟩
    · have hp : placeV (T.mk 5 n' s' la' lc' l' da' dc' d').val s = -1 := by rw [HPV.out, h1]
      have H2 := Lib.hid h2
      rw [hp]
      clear HP HPV HD h1 h2 hp
      go_wp2_with fail
      have o2 : w2.ownsRow (w.heap.size + 3) 63 6 (.slice da' d'.length dc') d'.length (d'.flatMap fcells) := by have := HO2.out.owns; rw [rows_mk] at this; simpa using this.tail.head
      have HR := Lib.hid o2
      have hdl := HO2.out.ok.parts.2.2.2.2.2.2.2.1
      have hdr : (d'.length + 1) * 96 ≤ 140737488355328 := by have := HROOM.out; unfold okFar at this; rw [HLEN.out]; exact this
      have HRM := Lib.hid hdr
      have HNB := Lib.hid (show ∀ b, (Value.slice da' d'.length dc').ownBlock = some b → w.heap.size + 3 ≤ b ∧ b ≠ w1.heap.size from fun b hb => by
        have hgm : b ∈ blocksOf (T.rows (.mk 5 n' s' la' lc' l' da' dc' d')) := by rw [rows_mk]; exact List.mem_filterMap.2 ⟨_, List.mem_cons_of_mem _ (List.mem_cons_self ..), hb⟩
        have h1 := owns_lt HO.out.owns b hgm
        omega)
      clear o2
      go_region_law (first | (refine step_enter rfl 32 #[.agg #[.int .i64 kx, .int .i64 nx, .string sx, .slice lax lx.length lcx, .slice dax dx.length dcx]] (by go_simp) ((HX.out _ (HIX.out.then_ HB.out.below).drew').mono ?_); rintro e w3 ⟨⟨k3, n3, s3, la3, lc3, l3, da3, dc3, d3⟩, rfl, hv3, ho3, b3'⟩; dsimp only [T.arg, T.cells]; have b3 : Below w2.heap.size w2 w3 := ⟨b3'.os, b3'.tape, b3'.output, b3'.size, b3'.block⟩; have HV3 := Lib.hid hv3; have HO3 := Lib.hid ho3; clear hv3 ho3 b3'; have HB3 := Lib.hid (HB.out.then_ b3); have z3 : w2.heap.size ≤ w3.heap.size := b3.size; have q2 : ∀ o, w3.cell? ⟨w.heap.size + 1, o, none⟩ = (#[.int .i64 kx, .int .i64 nx, .string sx, .slice lax lx.length lcx, .slice dax dx.length dcx] : Array Value)[o]? := row_cells HB3.out.box2; have q4 : ∀ o, w3.cell? ⟨w1.heap.size, o, none⟩ = (#[.int .i64 5, .int .i64 n', .string s', .slice la' l'.length lc', .slice da' d'.length dc'] : Array Value)[o]? := row_cells HB3.out.box4; have q4a : ∀ X o, (w3.alloc X).cell? ⟨w1.heap.size, o, none⟩ = (#[.int .i64 5, .int .i64 n', .string s', .slice la' l'.length lc', .slice da' d'.length dc'] : Array Value)[o]? := fun X => row_cells (HB3.out.then_ (below1 _ X)).box4; refine ⟨_, rfl, ?_⟩) | (refine step_append_lies _ rfl (.tmp 28) (.tmp 33) 23 rfl (w.heap.size + 3) 63 i1 (.agg #[.string ⟨#[]⟩, .int .i64 0, .int .i64 0, .string ⟨#[]⟩, .slice none 0 0, .slice none 0 0]) 6 96 Tryd.underlying23 I1.out.1 I1.out.2.1 I1.out.2.2.1 I1.out.2.2.2 rfl (by omega) (.slice da' d'.length dc') d'.length (d'.flatMap fcells) (by simp [Act.eval]) ((row_keep HR.out b3).alloc _) ⟨w3.heap.size, 0, none⟩ 1 1 [.string s, .int .i64 k3, .int .i64 n3, .string s3, .slice la3 l3.length lc3, .slice da3 d3.length dc3] (by simp [Act.eval]) rfl (news_at _ _ _ _ (by simp)) (by simp [Value.oneCell']) (by omega) (by unfold maxLen; omega) HRM.out (by simp; omega) _ rfl ?_; intro g cap w4 hown4 hgrow4 hgd4 hlt4; have HB4 := Lib.hid ((HB3.out.then_ (below1 _ _)).grown hgrow4 HNB.out); have r4 : ∀ o, w4.cell? ⟨w1.heap.size, o, none⟩ = (#[.int .i64 5, .int .i64 n', .string s', .slice la' l'.length lc', .slice da' d'.length dc'] : Array Value)[o]? := row_cells HB4.out.box4; have fz : ∀ o, w4.frozen? ⟨w1.heap.size, o, none⟩ = false := fun o => frozen_of_row _ _ _ _ _ HB4.out.box4; have r3 : ∀ o, w4.cell? ⟨w.heap.size + 2, o, none⟩ = (#[.int .i64 0, .int .i64 0, .string ⟨#[]⟩, .slice none 0 0, .slice none 0 0] : Array Value)[o]? := row_cells HB4.out.box3; have fz3 : ∀ o, w4.frozen? ⟨w.heap.size + 2, o, none⟩ = false := fun o => frozen_of_row _ _ _ _ _ HB4.out.box3))
      all_goals
        simp only [Nat.add_assoc, Nat.reduceAdd]
        go_wp2_with fail
        refine bodyPost_ret (v := .agg #[.int .i64 5, .int .i64 n', .string s', .slice la' l'.length lc', .slice (some ⟨g, 0, none⟩) (d'.length + 1) cap]) (by simp [results, Tryd.results24, go_sem, r3]) rfl ?_
        have hgb : (w3.alloc (.cells #[.string s, .int .i64 k3, .int .i64 n3, .string s3, .slice la3 l3.length lc3, .slice da3 d3.length dc3] 63)).heap.size = w3.heap.size + 1 := by simp
        have HY := HO3.out.keep (Only.of_below (S := []) (below1 w3 (.cells #[.string s, .int .i64 k3, .int .i64 n3, .string s3, .slice la3 l3.length lc3, .slice da3 d3.length dc3] 63))) (by simp) (Nat.le_refl _)
        have hcap : cap ≤ 9223372036854775807 := by
          obtain ⟨_, h2⟩ := hown4
          rcases h2 with ⟨hv, _⟩ | ⟨g', cap', cur, hv, hb, hg, hkc, hm, _⟩
          · cases hv
          · injection hv with _ _ e3; unfold maxLen at hm; omega
        have HA := own_addD HO2.out HY (below_then b3 (below1 _ _)) (Nat.le_refl _) (by simp; omega) HS.out (by unfold okFar; exact HRM.out) hcap hown4 hgrow4 (hgd4.imp id (fun h => by rw [h]; simp))
        have hap : ∀ b ∈ blocksOf (T.rows (.mk 5 n' s' la' lc' l' (some ⟨g, 0, none⟩) cap (d' ++ [(s, .mk k3 n3 s3 la3 lc3 l3 da3 dc3 d3)]))), b ≠ w1.heap.size := by
          intro b hb
          have hold : b ∈ blocksOf (T.rows (.mk 5 n' s' la' lc' l' da' dc' d')) → b ≠ w1.heap.size := fun h => by have := (owns_lt HO.out.owns b h).2; omega
          rcases blocks_mk.1 hb with h | h | h | ⟨f, hf, h⟩
          · exact hold (blocks_mk.2 (.inl h))
          · simp only [Value.ownBlock, Option.some.injEq] at h
            subst h
            rcases hgd4 with h | h
            · exact hold (blocks_mk.2 (.inr (.inl h)))
            · omega
          · exact hold (blocks_mk.2 (.inr (.inr (.inl h))))
          · rcases List.mem_append.1 hf with hf | hf
            · exact hold (blocks_mk.2 (.inr (.inr (.inr ⟨f, hf, h⟩))))
            · simp only [List.mem_singleton] at hf
              subst hf
              have := (owns_lt HO3.out.owns b h).1
              simp at this
              omega
        have ho5 := ((Only.refl [w1.heap.size, w.heap.size + 2] w4).setCell (p := ⟨w1.heap.size, 4, none⟩) (.inl (by simp)) (.slice (some ⟨g, 0, none⟩) (d'.length + 1) cap)).trans ((only_set5 _ (w.heap.size + 2) (.int .i64 5) (.int .i64 n') (.string s') (.slice la' l'.length lc') (.slice (some ⟨g, 0, none⟩) (d'.length + 1) cap)).mono (by simp))
        refine ⟨.mk 5 n' s' la' lc' l' (some ⟨g, 0, none⟩) cap (d' ++ [(s, .mk k3 n3 s3 la3 lc3 l3 da3 dc3 d3)]), by simp [T.arg, T.cells], ?_, HA.apart ho5 (fun b hb hc => ?_) (by omega), ?_⟩
        · rw [HW.out, H2.out, T.val_mk, List.map_append]
          simp only [List.map_cons, List.map_nil, HV3.out]
        · have h1 := hap b hb
          have h2 := (owns_lt HA.owns b hb).1
          simp at hc
          omega
        · exact ((Only.of_below (S := []) HB4.out.below).then_ ho5 (by simp; omega)).below
    · have hp : placeV (T.mk 5 n' s' la' lc' l' da' dc' d').val s = (d1.length : Int) := by rw [HPV.out, h2]; simp
      have H3 := Lib.hid h3
      have H1 := Lib.hid h1
      have hj : d1.length < d'.length := by rw [h1]; simp
      have hdl := HO2.out.ok.parts.2.2.2.2.2.2.2.1
      obtain ⟨m, hm⟩ : ∃ m, d'.length = m + 1 := ⟨d'.length - 1, by omega⟩
      have o2 : w2.ownsRow (w.heap.size + 3) 63 6 (.slice da' d'.length dc') d'.length (d'.flatMap fcells) := by have := HO2.out.owns; rw [rows_mk] at this; simpa using this.tail.head
      rw [hm] at o2
      obtain ⟨g, rfl, -, -, -⟩ := own_live o2
      rw [← hm] at o2
      have HR := Lib.hid o2
      have hgm : g ∈ blocksOf (T.rows (.mk 5 n' s' la' lc' l' (some ⟨g, 0, none⟩) dc' d')) := by rw [rows_mk]; exact List.mem_filterMap.2 ⟨_, List.mem_cons_of_mem _ (List.mem_cons_self ..), rfl⟩
      have hg1 := (owns_lt HO.out.owns g hgm).2
      have hg2 := (owns_lt HO.out.owns g hgm).1
      have ng1 : ¬ w1.heap.size = g := by omega
      have ng2 : ¬ w.heap.size + 1 = g := by omega
      have ng3 : ¬ g = w1.heap.size := by omega
      have ng4 : ¬ g = w.heap.size + 1 := by omega
      rw [hp]
      clear HP HPV HD h1 h2 h3 hp hm o2
      go_wp2_with fail
      go_region_held3 (fun w' => w'.cell? ⟨w1.heap.size, 4, none⟩ = some (.slice (some ⟨g, 0, none⟩) d'.length dc') ∧ w'.cell? ⟨w.heap.size + 1, 0, none⟩ = some (.int .i64 kx) ∧ w'.cell? ⟨w.heap.size + 1, 1, none⟩ = some (.int .i64 nx) ∧ w'.cell? ⟨w.heap.size + 1, 2, none⟩ = some (.string sx) ∧ w'.cell? ⟨w.heap.size + 1, 3, none⟩ = some (.slice lax lx.length lcx) ∧ w'.cell? ⟨w.heap.size + 1, 4, none⟩ = some (.slice dax dx.length dcx))
        (go_keep)
        (first | (go_at_call 32; refine (HX.out _ ?_).mono ?_; (exact (HIX.out.then_ HB.out.below).drew'); rintro e w3 ⟨⟨k3, n3, s3, la3, lc3, l3, da3, dc3, d3⟩, rfl, hv3, ho3, b3'⟩; dsimp only [T.arg, T.cells]; have b3 : Below w2.heap.size w2 w3 := ⟨b3'.os, b3'.tape, b3'.output, b3'.size, b3'.block⟩; have HV3 := Lib.hid hv3; have HO3 := Lib.hid ho3; clear hv3 ho3 b3'; have HB3 := Lib.hid (HB.out.then_ b3); have z3 : w2.heap.size ≤ w3.heap.size := b3.size; have q2 : ∀ o, w3.cell? ⟨w.heap.size + 1, o, none⟩ = (#[.int .i64 kx, .int .i64 nx, .string sx, .slice lax lx.length lcx, .slice dax dx.length dcx] : Array Value)[o]? := row_cells HB3.out.box2; have q4 : ∀ o, w3.cell? ⟨w1.heap.size, o, none⟩ = (#[.int .i64 5, .int .i64 n', .string s', .slice la' l'.length lc', .slice (some ⟨g, 0, none⟩) d'.length dc'] : Array Value)[o]? := row_cells HB3.out.box4; have hgw : g < w2.heap.size := (HR.out.lt g rfl).2; obtain ⟨⟨v1, c1⟩, f1⟩ := own_room (row_keep HR.out b3) (j := d1.length * 6 + 1) (by omega); obtain ⟨⟨v2, c2⟩, f2⟩ := own_room (row_keep HR.out b3) (j := d1.length * 6 + 2) (by omega); obtain ⟨⟨v3, c3⟩, f3⟩ := own_room (row_keep HR.out b3) (j := d1.length * 6 + 3) (by omega); obtain ⟨⟨v4, c4⟩, f4⟩ := own_room (row_keep HR.out b3) (j := d1.length * 6 + 4) (by omega); obtain ⟨⟨v5, c5⟩, f5⟩ := own_room (row_keep HR.out b3) (j := d1.length * 6 + 5) (by omega)))
      generalize hw4 : World.setCell (World.setCell (World.setCell (World.setCell (World.setCell w3 _ _) _ _) _ _) _ _) _ _ = w4
      have hp4 : putCells w3 g (d1.length * 6 + 1) [.int .i64 k3, .int .i64 n3, .string s3, .slice la3 l3.length lc3, .slice da3 d3.length dc3] = w4 := hw4
      have ho4 : Only [g] w3 w4 := hp4 ▸ put_only _ _ _ _
      have HB4 := Lib.hid (HB3.out.only ho4 (by simp; omega))
      have r4 : ∀ o, w4.cell? ⟨w1.heap.size, o, none⟩ = (#[.int .i64 5, .int .i64 n', .string s', .slice la' l'.length lc', .slice (some ⟨g, 0, none⟩) d'.length dc'] : Array Value)[o]? := row_cells HB4.out.box4
      have r3 : ∀ o, w4.cell? ⟨w.heap.size + 2, o, none⟩ = (#[.int .i64 0, .int .i64 0, .string ⟨#[]⟩, .slice none 0 0, .slice none 0 0] : Array Value)[o]? := row_cells HB4.out.box3
      have fz3 : ∀ o, w4.frozen? ⟨w.heap.size + 2, o, none⟩ = false := fun o => frozen_of_row _ _ _ _ _ HB4.out.box3
      clear hw4 q2 q4
      simp only [Nat.add_assoc, Nat.reduceAdd]
      go_wp2_with fail
      have hd1 := H1.out
      subst hd1
      have HA := own_setD HO2.out HO3.out b3 (Nat.le_refl _) (by simp; omega)
      rw [show T.cells (.mk k3 n3 s3 la3 lc3 l3 da3 dc3 d3) = [.int .i64 k3, .int .i64 n3, .string s3, .slice la3 l3.length lc3, .slice da3 d3.length dc3] from rfl, hp4] at HA
      have hap : ∀ b ∈ blocksOf (T.rows (.mk 5 n' s' la' lc' l' (some ⟨g, 0, none⟩) dc' (d1 ++ (f, .mk k3 n3 s3 la3 lc3 l3 da3 dc3 d3) :: d2))), b ≠ w1.heap.size := by
        intro b hb
        have hold : b ∈ blocksOf (T.rows (.mk 5 n' s' la' lc' l' (some ⟨g, 0, none⟩) dc' (d1 ++ (f, y) :: d2))) → b ≠ w1.heap.size := fun h => by have := (owns_lt HO.out.owns b h).2; omega
        rcases blocks_mk.1 hb with h | h | h | ⟨z, hz, h⟩
        · exact hold (blocks_mk.2 (.inl h))
        · exact hold (blocks_mk.2 (.inr (.inl h)))
        · exact hold (blocks_mk.2 (.inr (.inr (.inl h))))
        · rcases List.mem_append.1 hz with hz | hz
          · exact hold (blocks_mk.2 (.inr (.inr (.inr ⟨z, List.mem_append.2 (.inl hz), h⟩))))
          · rcases List.mem_cons.1 hz with rfl | hz
            · have := (owns_lt HO3.out.owns b h).1
              simp at this
              omega
            · exact hold (blocks_mk.2 (.inr (.inr (.inr ⟨z, List.mem_append.2 (.inr (List.mem_cons_of_mem _ hz)), h⟩))))
      have ho5 := only_set5 w4 (w.heap.size + 2) (.int .i64 5) (.int .i64 n') (.string s') (.slice la' l'.length lc') (.slice (some ⟨g, 0, none⟩) (d1 ++ (f, y) :: d2).length dc')
      refine bodyPost_ret (v := .agg #[.int .i64 5, .int .i64 n', .string s', .slice la' l'.length lc', .slice (some ⟨g, 0, none⟩) (d1 ++ (f, y) :: d2).length dc']) (by simp [results, Tryd.results24, go_sem, r3]) rfl ?_
      refine ⟨.mk 5 n' s' la' lc' l' (some ⟨g, 0, none⟩) dc' (d1 ++ (f, .mk k3 n3 s3 la3 lc3 l3 da3 dc3 d3) :: d2), by simp [T.arg, T.cells], ?_, HA.keep ho5 (by simp) (by omega), ((Only.of_below (S := []) HB4.out.below).then_ ho5 (by simp)).below⟩
      rw [HW.out, H3.out, T.val_mk, List.map_append, List.map_cons, HV3.out]
  · have HW := Lib.hid (show withV (T.mk kt nt st lat lct lt dat dct dt).val s (T.mk kx nx sx lax lcx lx dax dcx dx).val = zeroV by rw [T.val_mk kt, withV, if_neg k5])
    have k5b : ((kt : Int) != 5) = true := by simp [k5]
    go_enter Tryd.func24, Tryd.ntmps24
    go_wp2_with fail
    refine bodyPost_ret (v := zeroT.arg) (by simp [results, Tryd.results24, go_sem, zeroT, T.arg, T.cells]) rfl ⟨zeroT, rfl, by rw [HW.out, zero_val], zero_own _ _, ?_⟩
    exact below3 _ _ _ _
end Go.Proofs.YtlmlehjfockkpaaDoor
