/- The program's Append: what it refuses. The program's Append: between two of its writes. The program's Append: where its writes begin, and what is so behind them. No statement is proved here. -/
import Derived.Test.YtophhnolnlbecaaDoorJPr9
import Derived.Test.YtophhnolnlbecaaDoorQ29
import Derived.RangeFuncBox
namespace Go.Proofs.YtophhnolnlbecaaDoor
open Go.RowKit
set_option maxRecDepth 100000
attribute [local go_sem] Oper.semAt_some

theorem set_one {w : World} {b : Nat} {y : Value} {t : TypeId} (h : w.heap[b]? = some (.cells #[y] t)) (x : Value) : (w.setCell ⟨b, 0, none⟩ x).heap[b]? = some (.cells #[x] t) := by
  have := heap_setCell_same _ _ 0 _ _ x h
  simpa using this
/-- What Append answers lies in a cell. -/
theorem append_res (tmps : Array Value) (w : World) (g : Nat) (v : Value) (hp : tmps.getD 4 undef = .pointer (some ⟨g, 0, none⟩)) (hc : w.cell? ⟨g, 0, none⟩ = some v) : (results Tryd.f22 tmps).run Tryd.prog w = .ok v w := by
  have hp' : tmps[4]?.getD undef = .pointer (some ⟨g, 0, none⟩) := by simpa using hp
  simp [results, Tryd.results22, hp', go_sem, hc]
set_option maxHeartbeats 8000000 in
theorem prefuse_any {W : World} (F : List Nat) (a : Nat) (J : JS) (x : Option Addr) (n c : Nat) (w : World) (d : Dk) (HJ : JnP W w F a J) (hJ : J.ok d) (hn : n ≤ 9223372036854775807) (hr : J.dead = true ∨ J.room < (n : Int)) :
    Calls Tryd.prog 22 #[.pointer (some ⟨a, 0, none⟩), .slice x n c] w fun en w' => en = .returned (errV J.refE) ∧ Below w.heap.size w w' := by
  have HJJ := Lib.hid HJ
  obtain ⟨h, db, v, H⟩ := HJ
  have c7 := H.c7
  have hb := H.box
  have hlt := lt_of_block H.obj
  have HB2 := Lib.hid (below2 w (.cells #[.pointer (some ⟨a, 0, none⟩)] 38) (.cells #[.nilIface] 46))
  have k1 := row_cellJ (row_then (heap_alloc_new w (.cells #[.pointer (some ⟨a, 0, none⟩)] 38)) (below1 _ (.cells #[.nilIface] 46)))
  have k2 := heap_alloc_at (w.alloc (.cells #[.pointer (some ⟨a, 0, none⟩)] 38)) (.cells #[.nilIface] 46) (w.heap.size + 1) (by simp)
  have c7' := (HB2.out.cell (p := ⟨a, 7, none⟩) hlt).trans c7
  have hb' := row_then hb HB2.out
  have HJ1 := HJJ.out
  replace HJ1 : JnP W ((w.alloc (.cells #[.pointer (some ⟨a, 0, none⟩)] 38)).alloc (.cells #[.nilIface] 46)) F a J := ⟨h, db, v, H.then_ HB2.out⟩
  have HRm := Lib.hid (proom_any (W := W) F a J _ d HJ1 hJ)
  have q2 := row_cellJ k2
  refine (callsIn_wide (n := 8)).1 ?_
  refine callsIn_of_wp_marks Tryd.func22 rfl trivial ?_ rfl
  simp only [Tryd.ntmps22, List.size_toArray, List.length_cons, List.length_nil, Nat.reduceAdd, Nat.reduceSub, Array.replicate_succ, Array.replicate_zero, List.push_toArray, List.append_toArray, List.nil_append, List.cons_append]
  have hfL : Fence.wide.fn 69 := trivial
  have hfR : Fence.wide.fn 21 := trivial
  clear H hb c7 HJ1
  cases hd : J.dead with
  | true =>
    rw [hd] at hb'
    have HH := Lib.hid (heard_dead db 0 _ hb')
    rw [errV_zero, errV_mk (n := 151) (by decide)] at HH
    have HRE := Lib.hid (show errV J.refE = .iface 25 (.int .i64 151) by unfold JS.refE; rw [hd]; rfl)
    clear hr hd hb'
    gi_wp2_with (gi_at_call 69; refine (callsIn_wide.2 HH.out).mono ?_; rintro en w2 ⟨rfl, rfl⟩)
    have k3 := row_cellJ (heap_alloc_at (w.alloc (.cells #[.pointer (some ⟨a, 0, none⟩)] 38)) (.cells #[.iface 25 (.int .i64 151)] 46) (w.heap.size + 1) (by simp))
    refine ⟨_, append_res _ _ _ _ rfl k3.1, ?_⟩
    exact ⟨by rw [HRE.out], below2 _ _ _⟩
  | false =>
    rw [hd] at hb'
    have HH := Lib.hid (heard_good db _ hb')
    have HRE := Lib.hid (show errV J.refE = .iface 25 (.int .i64 150) by unfold JS.refE; rw [hd]; rfl)
    have hlow : J.room < (n : Int) := by
      rcases hr with h | h
      · rw [hd] at h; cases h
      · exact h
    clear hr hd hb'
    generalize J.room = rm at *
    gi_wp2_with (first
      | (gi_at_call 69; refine (callsIn_wide.2 HH.out).mono ?_; rintro en w2 ⟨rfl, rfl⟩)
      | (gi_at_call 21; refine (callsIn_wide.2 HRm.out).mono ?_; rintro en w2 ⟨rfl, b2⟩; have B2 := Lib.hid b2; have k3 := row_cellJ (row_then k2 b2); have k4 := row_then k2 b2; clear b2))
    have k5 := row_cellJ (set_one k4 (.iface 25 (.int .i64 150)))
    refine ⟨_, append_res _ _ _ _ rfl k5.1, ?_⟩
    exact ⟨by rw [HRE.out], (below_then HB2.out B2.out).setCell (p := ⟨w.heap.size + 1, 0, none⟩) (by simp) _⟩
end Go.Proofs.YtophhnolnlbecaaDoor
namespace Go.Proofs.YtophhnolnlbecaaDoor
open Go.RowKit
set_option maxRecDepth 100000

/-- What stays the same throughout an Append. -/
structure ApC where
  W : World
  w : World
  U : World
  F : List Nat
  X : Nat → Prop
  a : Nat
  h : Nat
  db : Nat
  v : Value
  J : JS
  l : List Int
  d : Dk
  lo : Nat
  N : Nat
  nb : Nat
  lb : Nat
  sb : Nat
  mb : Nat
  g : Nat
  rn : Nat
  c : Nat
def ApC.R (K : ApC) : List Int := (strmR K.J.e K.J.rs K.l).drop (504 * jFst K.J.e K.J.rs)
def ApC.M (K : ApC) : Nat := jEnd K.J.e K.J.rs K.l - jFst K.J.e K.J.rs
def ApC.part (K : ApC) (i : Nat) : Value := .slice (adAt (some ⟨K.g, 0, none⟩) (504 * i)) (min 504 (K.rn - 504 * i)) (min 504 (K.rn - 504 * i))
def ApC.lastV (K : ApC) : Nat → Value
  | 0 => .slice (some ⟨K.g, 0, none⟩) K.rn K.c
  | i + 1 => K.part i
/-- What must hold of it. -/
structure ApC.Ok (K : ApC) : Prop where
  hW : Below K.W.heap.size K.W K.w
  hU : Below K.w.heap.size K.w K.U
  J_ok : K.J.ok K.d
  jat : JAt K.W.heap.size K.w K.F K.a K.h K.db K.v K.J
  lo : K.W.heap.size ≤ K.lo
  xs : ∀ y, K.X y → y < K.w.heap.size
  alive : K.J.dead = false
  isB : isB K.l
  room : (K.l.length : Int) ≤ K.J.room
  many : K.N + 8 * K.J.many ≤ 1099511627776
  row : InB K.U (some ⟨K.g, 0, none⟩) K.R
  rlen : K.R.length = K.rn
  jb : K.U.heap[K.w.heap.size]? = some (.cells #[.pointer (some ⟨K.a, 0, none⟩)] 38)
  ec : K.U.heap[K.w.heap.size + 1]? = some (.cells #[.nilIface] 46)
  ok : OkC K.sb K.mb (some ⟨K.g, 0, none⟩) K.rn K.c 504 K.U
  news : K.w.heap.size ≤ K.nb ∧ K.w.heap.size ≤ K.lb ∧ K.nb < K.U.heap.size ∧ K.lb < K.U.heap.size ∧ K.nb ≠ K.lb
  other : K.w.heap.size ≠ K.nb ∧ K.w.heap.size ≠ K.lb ∧ K.w.heap.size + 1 ≠ K.nb ∧ K.w.heap.size + 1 ≠ K.lb ∧ K.sb ≠ K.nb ∧ K.sb ≠ K.lb ∧ K.mb ≠ K.nb ∧ K.mb ≠ K.lb ∧ K.g ≠ K.nb ∧ K.g ≠ K.lb
  byteRow : ∃ cur, K.U.heap[K.g]? = some (.cells cur 5)
def ApC.off (K : ApC) (y : Nat) : Prop := y ∈ K.F ∨ K.X y ∨ (K.w.heap.size ≤ y ∧ y < K.U.heap.size)
/-- Behind i writes. -/
structure ApI (K : ApC) (i : Nat) (A : World) : Prop where
  low : Below K.W.heap.size K.W A
  size : K.U.heap.size ≤ A.heap.size
  keep : ∀ (b : Nat) (o : Obj), K.U.heap[b]? = some o → ¬ TB o → b ≠ K.nb → b ≠ K.lb → A.heap[b]? = some o
  num : A.heap[K.nb]? = some (.cells #[.int .i64 ((8 * K.J.fr + (jFst K.J.e K.J.rs + i) : Nat) : Int)] 3)
  las : A.heap[K.lb]? = some (.cells #[K.lastV i] 22)
  box : ∃ di, BoxAt A ⟨K.lo, K.off⟩ K.J.g di (K.N + i) ∧ K.J.app K.l K.d = wrX (8 * K.J.fr) (secL K.J.e (strmR K.J.e K.J.rs K.l)) (K.M - i) (jFst K.J.e K.J.rs + i) di
section
variable {K : ApC} {i : Nat} {A B C : World}
theorem ApC.Ok.atU (O : K.Ok) : JAt K.W.heap.size K.U K.F K.a K.h K.db K.v K.J := O.jat.then_ O.hU
theorem ApC.Ok.less (O : K.Ok) : ∀ b ∈ K.F, b < K.w.heap.size := fun b hb => (O.jat.lt b hb).2
theorem ApI.jat (O : K.Ok) (H : ApI K i A) : JAt K.W.heap.size A K.F K.a K.h K.db K.v K.J := O.atU.keep fun b hb => by
  obtain ⟨o, e, h1⟩ := O.atU.notTB b hb
  have h2 := O.less b hb
  have h3 := O.news
  rw [H.keep b o e h1 (by omega) (by omega), e]
theorem ApI.okc (O : K.Ok) (H : ApI K i A) : OkC K.sb K.mb (some ⟨K.g, 0, none⟩) K.rn K.c 504 A := by
  have h := O.other
  exact ⟨H.keep _ _ O.ok.1 (TB_no (by decide) (by decide) _ _) h.2.2.2.2.1 h.2.2.2.2.2.1, H.keep _ _ O.ok.2 (TB_no (by decide) (by decide) _ _) h.2.2.2.2.2.2.1 h.2.2.2.2.2.2.2.1⟩
theorem ApI.jb (O : K.Ok) (H : ApI K i A) : A.heap[K.w.heap.size]? = some (.cells #[.pointer (some ⟨K.a, 0, none⟩)] 38) := H.keep _ _ O.jb (TB_no (by decide) (by decide) _ _) O.other.1 O.other.2.1
theorem ApI.ec (O : K.Ok) (H : ApI K i A) : A.heap[K.w.heap.size + 1]? = some (.cells #[.nilIface] 46) := H.keep _ _ O.ec (TB_no (by decide) (by decide) _ _) O.other.2.2.1 O.other.2.2.2.1
theorem ApI.row (O : K.Ok) (H : ApI K i A) : InB A (some ⟨K.g, 0, none⟩) K.R := fun j x hx => by
  obtain ⟨b, o, e, hc⟩ := O.row j x hx
  injection e with e
  injection e with e1 e2
  subst e1 e2
  obtain ⟨cur, hcur⟩ := O.byteRow
  refine ⟨K.g, 0, rfl, ?_⟩
  rw [← hc]
  unfold World.cell?
  rw [H.keep _ _ hcur (TB_byte _ _) O.other.2.2.2.2.2.2.2.2.1 O.other.2.2.2.2.2.2.2.2.2, hcur]
theorem ApI.turnsL (O : K.Ok) (H : ApI K i A) (ht : Turns TL K.U.heap.size A B) : ApI K i B := by
  have hn := O.news
  have hlt : K.W.heap.size ≤ K.U.heap.size := Nat.le_trans O.hW.size O.hU.size
  refine ⟨H.low.trans (ht.below.mono hlt), Nat.le_trans H.size ht.below.size, fun b o e h1 h2 h3 => ?_, (ht.below.block _ hn.2.2.1).trans H.num, (ht.below.block _ hn.2.2.2.1).trans H.las, ?_⟩
  · exact (ht.below.block b (lt_of_block e)).trans (H.keep b o e h1 h2 h3)
  · obtain ⟨di, h1, h2⟩ := H.box
    exact ⟨di, h1.turnsG ht (fun _ => TL_cells _ _ _) (fun _ => TL_cells _ _ _) (fun _ => TL_cells _ _ _) (fun es c h => by rcases h with ⟨x, h⟩ | ⟨x, h⟩ <;> cases h), h2⟩
/-- What is written next. -/
def ApC.sec (K : ApC) (i : Nat) : List Int := secL K.J.e (strmR K.J.e K.J.rs K.l) (jFst K.J.e K.J.rs + i)
theorem TL_TB (o : Obj) (h : TL o) : ¬ TB o := by
  rcases h with ⟨x, rfl⟩ | ⟨x, rfl⟩
  all_goals exact fun h => h
/-- A write that was done. -/
theorem ApI.next (O : K.Ok) (H : ApI K i A) {E : World} (hi : i < K.M) (h1 : Below A.heap.size A B) {di : Dk} (hbx : BoxAt C ⟨K.lo, K.off⟩ K.J.g (di.write ((8 * K.J.fr + (jFst K.J.e K.J.rs + i) : Nat) : Int) (K.sec i)) (K.N + i + 1)) (ht : Turns TB K.lo B C)
    (hw : K.J.app K.l K.d = wrX (8 * K.J.fr) (secL K.J.e (strmR K.J.e K.J.rs K.l)) (K.M - i) (jFst K.J.e K.J.rs + i) di) (h0 : di.writeE ((8 * K.J.fr + (jFst K.J.e K.J.rs + i) : Nat) : Int) (K.sec i) = 0)
    (hE : E = (C.setCell ⟨K.nb, 0, none⟩ (.int .i64 ((8 * K.J.fr + (jFst K.J.e K.J.rs + i) : Nat) + 1 : Int))).setCell ⟨K.lb, 0, none⟩ (K.part i)) :
    ApI K (i + 1) E ∧ Keeps A E := by
  have hn := O.news
  have hsz := h1.size
  have hU := H.size
  have kB : ∀ (b : Nat) (o : Obj), A.heap[b]? = some o → ¬ TB o → C.heap[b]? = some o := fun b o e h => ht.block b o ((h1.block b (lt_of_block e)).trans e) h
  have n1 := kB _ _ H.num (TB_no (by decide) (by decide) _ _)
  have l1 := kB _ _ H.las (TB_no (by decide) (by decide) _ _)
  have e1 := set_one n1 (.int .i64 ((8 * K.J.fr + (jFst K.J.e K.J.rs + i) : Nat) + 1 : Int))
  have l2 := (Below.heap_setCell C ⟨K.nb, 0, none⟩ (.int .i64 ((8 * K.J.fr + (jFst K.J.e K.J.rs + i) : Nat) + 1 : Int)) K.lb (Ne.symm hn.2.2.2.2)).trans l1
  have e2 := set_one l2 (K.part i)
  rw [← hE] at e2
  have off : ∀ b, b ≠ K.nb → b ≠ K.lb → E.heap[b]? = C.heap[b]? := fun b b1 b2 => by
    rw [hE, Below.heap_setCell _ _ _ _ b2, Below.heap_setCell _ _ _ _ b1]
  have hWU : K.W.heap.size ≤ K.w.heap.size := O.hW.size
  have hlow : Below K.W.heap.size K.W E := by
    have hb : Below K.W.heap.size K.W C := (H.low.trans (h1.mono (by omega))).trans (ht.below.mono O.lo)
    rw [hE]
    exact (hb.setCell (p := ⟨K.nb, 0, none⟩) (by dsimp only; omega) _).setCell (p := ⟨K.lb, 0, none⟩) (by dsimp only; omega) _
  have hse : E.heap.size = C.heap.size := by rw [hE]; simp [World.setCell]
  have htz := ht.below.size
  refine ⟨⟨hlow, by omega, fun b o e b0 b1 b2 => ?_, ?_, e2, ?_⟩, ⟨by omega, fun b o e t => ?_⟩⟩
  · rw [off b b1 b2]
    exact kB b o (H.keep b o e b0 b1 b2) b0
  · rw [hE, Below.heap_setCell _ _ _ _ hn.2.2.2.2, e1, ← Nat.add_assoc, ← Nat.add_assoc, ← Nat.add_assoc]
    push_cast
    rfl
  · refine ⟨_, hbx.onlyT (T := fun y => y = K.nb ∨ y = K.lb) (fun y e => .inr (.inr (by omega))) (fun b _ e => off b (fun h => e (.inl h)) (fun h => e (.inr h))) (fun y e _ => ?_) (fun y e => .inl e), ?_⟩
    · rcases e with rfl | rfl
      · exact ⟨_, _, _, n1, by decide, by decide⟩
      · exact ⟨_, _, _, l1, by decide, by decide⟩
    · rw [hw, show K.M - i = (K.M - (i + 1)) + 1 by omega, wrX_good (b0 := 8 * K.J.fr) (X := secL K.J.e (strmR K.J.e K.J.rs K.l)) (q := jFst K.J.e K.J.rs + i) h0]
      rfl
  · have hb : b ≠ K.nb ∧ b ≠ K.lb := by
      refine ⟨fun h => ?_, fun h => ?_⟩
      · subst h
        rw [H.num] at e
        cases e
        exact TL_cells _ _ _ t
      · subst h
        rw [H.las] at e
        cases e
        exact TL_cells _ _ _ t
    rw [off b hb.1 hb.2]
    exact kB b o e (TL_TB o t)
/-- A write that was refused: the journal is dead. -/
structure ApF (K : ApC) (A : World) : Prop where
  low : Below K.W.heap.size K.W A
  size : K.U.heap.size ≤ A.heap.size
  err : A.heap[K.w.heap.size + 1]? = some (.cells #[errV (K.J.app K.l K.d).1] 46)
  ne : (K.J.app K.l K.d).1 ≠ 0
  box : BoxAt A ⟨K.lo, K.off⟩ K.J.g (K.J.app K.l K.d).2 (K.N + 8 * K.J.many)
  jat : JAt K.W.heap.size A K.F K.a K.h K.db K.v { K.J with dead := true }
  turn : ∀ (b : Nat) (o : Obj), K.w.heap[b]? = some o → ¬ TB o → b ∉ K.F → A.heap[b]? = some o
theorem ApF.turnsL (O : K.Ok) (H : ApF K A) (ht : Turns TL K.U.heap.size A B) : ApF K B := by
  have hlt : K.W.heap.size ≤ K.U.heap.size := Nat.le_trans O.hW.size O.hU.size
  have hwu := O.hU.size
  refine ⟨H.low.trans (ht.below.mono hlt), Nat.le_trans H.size ht.below.size, (ht.below.block _ (lt_of_block O.ec)).trans H.err, H.ne, H.box.turnsG ht (fun _ => TL_cells _ _ _) (fun _ => TL_cells _ _ _) (fun _ => TL_cells _ _ _) (fun es c h => by rcases h with ⟨x, h⟩ | ⟨x, h⟩ <;> cases h), H.jat.keep fun b hb => ht.below.block b (by have := O.less b hb; omega), fun b o e h1 h2 => (ht.below.block b (by have := lt_of_block e; omega)).trans (H.turn b o e h1 h2)⟩
theorem ApC.Ok.M_le (O : K.Ok) : K.M ≤ 8 * K.J.many := by
  have := JS.strm (d := K.d) (l := K.l) O.room
  unfold ApC.M jEnd
  omega
theorem ApI.fail (O : K.Ok) (H : ApI K i A) {E : World} (hi : i < K.M) (h1 : Below A.heap.size A B) {di : Dk} (hbx : BoxAt C ⟨K.lo, K.off⟩ K.J.g (di.write ((8 * K.J.fr + (jFst K.J.e K.J.rs + i) : Nat) : Int) (K.sec i)) (K.N + i + 1)) (ht : Turns TB K.lo B C)
    (hw : K.J.app K.l K.d = wrX (8 * K.J.fr) (secL K.J.e (strmR K.J.e K.J.rs K.l)) (K.M - i) (jFst K.J.e K.J.rs + i) di) (h0 : di.writeE ((8 * K.J.fr + (jFst K.J.e K.J.rs + i) : Nat) : Int) (K.sec i) ≠ 0)
    (hE : E = (C.setCell ⟨K.db, 0, none⟩ (.bool true)).setCell ⟨K.w.heap.size + 1, 0, none⟩ (errV (di.writeE ((8 * K.J.fr + (jFst K.J.e K.J.rs + i) : Nat) : Int) (K.sec i)))) :
    ApF K E ∧ Keeps A E := by
  have hn := O.news
  have hsz := h1.size
  have hU := H.size
  have HA := H.jat O
  have HC : JAt K.W.heap.size C K.F K.a K.h K.db K.v K.J := (HA.then_ h1).turns ht
  have kB : ∀ (b : Nat) (o : Obj), A.heap[b]? = some o → ¬ TB o → C.heap[b]? = some o := fun b o e h => ht.block b o ((h1.block b (lt_of_block e)).trans e) h
  have ec1 := kB _ _ (H.ec O) (TB_no (by decide) (by decide) _ _)
  have hm := (HC.mem K.db).2 (.inr (.inr (.inl rfl)))
  have hdb : K.db < K.w.heap.size := O.less _ hm
  have l2 := (Below.heap_setCell C ⟨K.db, 0, none⟩ (.bool true) (K.w.heap.size + 1) (by dsimp only; omega)).trans ec1
  have e2 := set_one l2 (errV (di.writeE ((8 * K.J.fr + (jFst K.J.e K.J.rs + i) : Nat) : Int) (K.sec i)))
  rw [← hE] at e2
  have off : ∀ b, b ≠ K.db → b ≠ K.w.heap.size + 1 → E.heap[b]? = C.heap[b]? := fun b b1 b2 => by
    rw [hE, Below.heap_setCell _ _ _ _ b2, Below.heap_setCell _ _ _ _ b1]
  have happ : K.J.app K.l K.d = (di.writeE ((8 * K.J.fr + (jFst K.J.e K.J.rs + i) : Nat) : Int) (K.sec i), di.write ((8 * K.J.fr + (jFst K.J.e K.J.rs + i) : Nat) : Int) (K.sec i)) := by
    rw [hw, show K.M - i = (K.M - (i + 1)) + 1 by omega, wrX_bad (b0 := 8 * K.J.fr) (X := secL K.J.e (strmR K.J.e K.J.rs K.l)) (q := jFst K.J.e K.J.rs + i) h0]
    rfl
  have hWU : K.W.heap.size ≤ K.w.heap.size := O.hW.size
  have hecU := lt_of_block O.ec
  have hse : E.heap.size = C.heap.size := by rw [hE]; simp [World.setCell]
  have htz := ht.below.size
  have hMl := O.M_le
  refine ⟨⟨?_, by omega, by rw [happ]; exact e2, by rw [happ]; exact h0, ?_, ?_, fun b o e b1 b2 => ?_⟩, ⟨by omega, fun b o e t => ?_⟩⟩
  · have hb : Below K.W.heap.size K.W C := (H.low.trans (h1.mono (by omega))).trans (ht.below.mono O.lo)
    rw [hE]
    exact (hb.setCell (p := ⟨K.db, 0, none⟩) (by dsimp only; exact HC.low.2.2) _).setCell (p := ⟨K.w.heap.size + 1, 0, none⟩) (by dsimp only; omega) _
  · rw [happ]
    refine (hbx.onlyT (T := fun y => y = K.db ∨ y = K.w.heap.size + 1) (fun y e => ?_) (fun b _ e => off b (fun h => e (.inl h)) (fun h => e (.inr h))) (fun y e _ => ?_) (fun y e => .inl e)).more (by omega)
    · rcases e with rfl | rfl
      · exact .inl hm
      · exact .inr (.inr ⟨by omega, hecU⟩)
    · rcases e with rfl | rfl
      · exact ⟨_, _, _, HC.box, by decide, by decide⟩
      · exact ⟨_, _, _, ec1, by decide, by decide⟩
  · have h5 := HC.die
    exact h5.keep fun b hb => by
      rw [hE]
      exact Below.heap_setCell _ _ _ _ (by have := O.less b hb; dsimp only; omega)
  · have hbl := lt_of_block e
    rw [off b (fun h => b2 (by rw [h]; exact hm)) (by omega)]
    refine kB b o (H.keep b o ((O.hU.block b hbl).trans e) b1 (by omega) (by omega)) b1
  · have hb : b ≠ K.db ∧ b ≠ K.w.heap.size + 1 := by
      refine ⟨fun h => ?_, fun h => ?_⟩
      · subst h
        rw [HA.box] at e
        cases e
        exact TL_cells _ _ _ t
      · subst h
        rw [H.ec O] at e
        cases e
        exact TL_cells _ _ _ t
    rw [off b hb.1 hb.2]
    exact kB b o e (TL_TB o t)
end
end Go.Proofs.YtophhnolnlbecaaDoor
namespace Go.Proofs.YtophhnolnlbecaaDoor
open Go.RowKit
set_option maxRecDepth 100000

/-- The two cells that an Append begins with. -/
structure ApS (a : Nat) (w A : World) : Prop where
  below : Below w.heap.size w A
  jb : A.heap[w.heap.size]? = some (.cells #[.pointer (some ⟨a, 0, none⟩)] 38)
  ec : A.heap[w.heap.size + 1]? = some (.cells #[.nilIface] 46)
theorem ApS.then_ {a : Nat} {w A B : World} (h : ApS a w A) (hb : Below A.heap.size A B) : ApS a w B := ⟨below_then h.below hb, row_then h.jb hb, row_then h.ec hb⟩
theorem ApS.start (a : Nat) (w : World) : ApS a w ((w.alloc (.cells #[.pointer (some ⟨a, 0, none⟩)] 38)).alloc (.cells #[.nilIface] 46)) :=
  ⟨below2 w _ _, row_then (heap_alloc_new w (.cells #[.pointer (some ⟨a, 0, none⟩)] 38)) (below1 _ (.cells #[.nilIface] 46)), heap_alloc_at (w.alloc (.cells #[.pointer (some ⟨a, 0, none⟩)] 38)) (.cells #[.nilIface] 46) (w.heap.size + 1) (by simp)⟩
theorem ap_start {W w w3 w5 U : World} {F : List Nat} {X : Nat → Prop} {a h db : Nat} {v : Value} {J : JS} {l : List Int} {d : Dk} {lo N g c rn : Nat} {R : List Int} (K : ApC)
    (hK : K = { W := W, w := w, U := U, F := F, X := X, a := a, h := h, db := db, v := v, J := J, l := l, d := d, lo := lo, N := N, nb := w3.heap.size, lb := w5.heap.size, sb := w5.heap.size + 1, mb := w5.heap.size + 2, g := g, rn := rn, c := c })
    (hW : Below W.heap.size W w) (H : JAt W.heap.size w F a h db v J) (hJ : J.ok d) (hlo : W.heap.size ≤ lo) (hX : ∀ y, X y → y < w.heap.size) (hbx : BoxAt w ⟨lo, fun y => y ∈ F ∨ X y⟩ J.g d N) (hN : N + 8 * J.many ≤ 1099511627776) (hB : isB l) (hd : J.dead = false) (hr : (l.length : Int) ≤ J.room)
    (hR : R = (strmR J.e J.rs l).drop (504 * jFst J.e J.rs)) (hRn : R.length = rn) (S3 : ApS a w w3) (b5 : Below w3.heap.size w3 w5) (hn : w5.heap[w3.heap.size]? = some (.cells #[.int .i64 ((J.fr : Int) * 8 + (jFst J.e J.rs : Int))] 3)) (hz : w3.heap.size + 2 ≤ w5.heap.size)
    (o5 : OwnB w5 (w3.heap.size + 2) (.slice (some ⟨g, 0, none⟩) rn c) R) (hU : U = ((w5.alloc (.cells #[.slice (some ⟨g, 0, none⟩) rn c] 22)).alloc (.cells #[.slice (some ⟨g, 0, none⟩) rn c] 22)).alloc (.cells #[.int .i64 504] 3)) :
    K.Ok ∧ ApI K 0 U := by
  have bU : Below w5.heap.size w5 U := by
    rw [hU]
    exact below_then (below2 w5 _ _) (below1 _ _)
  have zU : U.heap.size = w5.heap.size + 3 := by rw [hU]; simp
  have k1 : U.heap[w5.heap.size]? = some (.cells #[.slice (some ⟨g, 0, none⟩) rn c] 22) := by
    rw [hU]
    exact row_then (heap_alloc_new w5 _) (below2 _ _ _)
  have k2 : U.heap[w5.heap.size + 1]? = some (.cells #[.slice (some ⟨g, 0, none⟩) rn c] 22) := by
    rw [hU]
    exact row_then (heap_alloc_at (w5.alloc (.cells #[.slice (some ⟨g, 0, none⟩) rn c] 22)) _ (w5.heap.size + 1) (by simp)) (below1 _ _)
  have k3 : U.heap[w5.heap.size + 2]? = some (.cells #[.int .i64 504] 3) := by
    rw [hU]
    exact heap_alloc_at _ _ (w5.heap.size + 2) (by simp)
  have S5 := S3.then_ b5
  have SU := S5.then_ bU
  have z3 := lt_of_block S3.ec
  have hg := o5.block g rfl
  have hn5 := row_then hn bU
  obtain ⟨cur, hcur⟩ := own_obj o5 (g := g) rfl
  subst hK
  have O : ApC.Ok { W := W, w := w, U := U, F := F, X := X, a := a, h := h, db := db, v := v, J := J, l := l, d := d, lo := lo, N := N, nb := w3.heap.size, lb := w5.heap.size, sb := w5.heap.size + 1, mb := w5.heap.size + 2, g := g, rn := rn, c := c } :=
    { hW := hW, hU := SU.below, J_ok := hJ, jat := H, lo := hlo, xs := hX, alive := hd, isB := hB, room := hr, many := hN,
      row := by show InB U _ ((strmR J.e J.rs l).drop (504 * jFst J.e J.rs)); rw [← hR]; exact o5.inB.then_ bU
      rlen := by show ((strmR J.e J.rs l).drop (504 * jFst J.e J.rs)).length = rn; rw [← hR]; exact hRn
      jb := SU.jb, ec := SU.ec, ok := ⟨k2, k3⟩, news := by dsimp only; omega, other := by dsimp only; omega, byteRow := ⟨cur, row_then hcur bU⟩ }
  refine ⟨O, ⟨hW.trans (SU.below.mono hW.size), Nat.le_refl _, fun b o e _ _ _ => e, ?_, k1, d, ?_, ?_⟩⟩
  · dsimp only
    have e : ((8 * J.fr + (jFst J.e J.rs + 0) : Nat) : Int) = (J.fr : Int) * 8 + (jFst J.e J.rs : Int) := by
      push_cast
      omega
    rw [e]
    exact hn5
  · dsimp only
    refine (hbx.offs (S' := fun y => y ∈ F ∨ X y ∨ (w.heap.size ≤ y ∧ y < U.heap.size)) fun y e => ?_).then_ SU.below
    rcases e with e | e | e
    · exact .inl (.inl e)
    · exact .inl (.inr e)
    · exact .inr e.1
  · rfl
/-- The deferred marks are taken away. -/
theorem turns_take {n D : Nat} {A : World} (hD : D = n) (hd : A.heap[D]? = some (.deferred (some []))) : Turns TL n A (A.putObj D (.deferred none)) := turnsL_put (by omega) (fun o' e => by rw [hd] at e; cases e; exact .inr ⟨_, rfl⟩)
theorem ApF.end_ {K : ApC} {A : World} (O : K.Ok) (H : ApF K A) : ∃ F', JnP K.W A F' K.a (K.J.more K.l (K.J.app K.l K.d).1) ∧ (∀ b ∈ F', b ∈ K.F ∨ K.w.heap.size ≤ b) ∧ BoxAt A ⟨K.lo, fun y => y ∈ F' ∨ K.X y⟩ K.J.g (K.J.app K.l K.d).2 (K.N + 8 * K.J.many) ∧ JTurns K.F K.W.heap.size K.w A := by
  refine ⟨K.F, ⟨K.h, K.db, K.v, ?_⟩, fun b hb => .inl hb, H.box.offs fun y e => .inl ?_, ⟨?_, H.turn⟩⟩
  · unfold JS.more
    rw [if_neg H.ne]
    exact H.jat
  · rcases e with e | e
    · exact .inl e
    · exact .inr (.inl e)
  · have h1 := H.low
    have h2 := O.hW
    exact ⟨h1.os.trans h2.os.symm, h1.tape.trans h2.tape.symm, h1.output.trans h2.output.symm, by have := H.size; have := O.hU.size; omega, fun k hk => (h1.block k hk).trans (h2.block k hk).symm⟩
end Go.Proofs.YtophhnolnlbecaaDoor
