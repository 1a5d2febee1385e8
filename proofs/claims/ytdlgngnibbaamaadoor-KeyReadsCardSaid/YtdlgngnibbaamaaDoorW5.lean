/- Small pieces, joined: the document's own reader of keys. No statement is proved here. -/
import Derived.Test.YtdlgngnibbaamaaDoorKRText
import Derived.Test.YtdlgngnibbaamaaDoorKRVal2
namespace Go.Proofs.YtdlgngnibbaamaaDoor
open Go.RowKit
set_option maxRecDepth 100000

/-- A reader at a place: one box with its bytes, its place, its turning, and whether it has failed. -/
structure RdrAt (w : World) (g : Nat) (K : Ctx) (i : Nat) (bad : Bool) : Prop where
  box : w.heap[g]? = some (.cells #[.slice K.a K.bs.length K.c, .int .i64 i, .bool K.f, .bool bad] 82 (0, 0))
  inb : InB w K.a K.bs
  low : ∀ b o, K.a = some ⟨b, o, none⟩ → 1 ≤ K.bs.length → b < g
  le : i ≤ K.bs.length
  room : K.bs.length ≤ 1000
  byte : isB K.bs
/-- What is left to be read; nothing, once it has failed. -/
def leftR (K : Ctx) (i : Nat) (bad : Bool) : Option (List Int) := if bad then none else some ((tf K.f K.bs).drop i)
def Rdr (w : World) (g : Nat) (K : Ctx) (o : Option (List Int)) : Prop := ∃ i bad, RdrAt w g K i bad ∧ leftR K i bad = o
def nextR : Option (List Int) → Int × Option (List Int)
  | some (x :: r) => (x, some r)
  | _ => (0, none)
theorem RdrAt.keep {w w' : World} {g : Nat} {K : Ctx} {i j : Nat} {bad bad' : Bool} (h : RdrAt w g K i bad) (ho : Only [g] w w') (hp : w'.heap[g]? = some (.cells #[.slice K.a K.bs.length K.c, .int .i64 j, .bool K.f, .bool bad'] 82 (0, 0))) (hj : j ≤ K.bs.length) : RdrAt w' g K j bad' := by
  refine ⟨hp, fun i x hx => ?_, h.low, hj, h.room, h.byte⟩
  obtain ⟨b, o, e, hc⟩ := h.inb i x hx
  refine ⟨b, o, e, (World.cell?_of_block (ho.block b (cell_lt hc) ?_)).trans hc⟩
  have := h.low b o e (by have := lt_of_get hx; omega)
  simp; omega
theorem Rdr.lt {w : World} {g : Nat} {K : Ctx} {o : Option (List Int)} (h : Rdr w g K o) : g < w.heap.size := by obtain ⟨i, b, h, -⟩ := h; exact lt_of_block h.box
theorem Rdr.then_ {w w' : World} {g : Nat} {K : Ctx} {o : Option (List Int)} (h : Rdr w g K o) (hb : Below w.heap.size w w') : Rdr w' g K o := by
  obtain ⟨i, b, h, e⟩ := h
  exact ⟨i, b, h.keep (Only.of_below hb) (row_then h.box hb) h.le, e⟩
theorem Rdr.only {w w' : World} {g : Nat} {K : Ctx} {o : Option (List Int)} {S : List Nat} (h : Rdr w g K o) (ho : Only S w w') (hS : ∀ b ∈ S, g < b) : Rdr w' g K o := by
  obtain ⟨i, bad, h, e⟩ := h
  have hB : ∀ b, b ≤ g → b ∉ S := fun b hb hc => by have := hS b hc; omega
  refine ⟨i, bad, ⟨keep_row ho h.box (hB _ (by omega)), fun i x hx => ?_, h.low, h.le, h.room, h.byte⟩, e⟩
  obtain ⟨b, o, e, hc⟩ := h.inb i x hx
  have := h.low b o e (by have := lt_of_get hx; omega)
  exact ⟨b, o, e, (World.cell?_of_block (ho.block b (cell_lt hc) (hB b (by omega)))).trans hc⟩
theorem Rdr.isB {w : World} {g : Nat} {K : Ctx} {R : List Int} (h : Rdr w g K (some R)) : isB R := by
  obtain ⟨i, b, h, e⟩ := h
  unfold leftR at e
  split at e
  · cases e
  · injection e with e
    subst e
    exact (isB_tf K.f h.byte).drop i
theorem only_setO (w : World) (g o : Nat) (v : Value) : Only [g] w (w.setCell ⟨g, o, none⟩ v) := (Only.refl [g] w).setCell (.inl (by simp)) v

theorem RdrAt.drewN {w : World} {g : Nat} {K : Ctx} {i : Nat} {bad : Bool} (h : RdrAt w g K i bad) (n : Nat) : RdrAt (w.drewN n) g K i bad := ⟨h.box, h.inb, h.low, h.le, h.room, h.byte⟩
theorem only_drewSet (w : World) (n g o : Nat) (v : Value) : Only [g] w ((w.drewN n).setCell ⟨g, o, none⟩ v) := (show Only [g] w (w.drewN n) from ⟨rfl, rfl, rfl, Nat.le_refl _, fun _ _ _ => rfl⟩).setCell (.inl (by simp)) v
theorem RdrAt.put {w : World} {g : Nat} {K : Ctx} {i : Nat} {bad : Bool} (h : RdrAt w g K i bad) (n : Nat) (hi : i < K.bs.length) : RdrAt ((w.drewN n).setCell ⟨g, 1, none⟩ (.int .i64 ((i : Int) + 1))) g K (i + 1) bad :=
  (h.drewN n).keep (only_setO _ _ _ _) (by rw [heap_setCell_same _ _ _ _ _ _ (h.drewN n).box]; rfl) (by omega)
theorem RdrAt.fail {w : World} {g : Nat} {K : Ctx} {i : Nat} {bad : Bool} (h : RdrAt w g K i bad) (n : Nat) : RdrAt ((w.drewN n).setCell ⟨g, 3, none⟩ (.bool true)) g K i true :=
  (h.drewN n).keep (only_setO _ _ _ _) (by rw [heap_setCell_same _ _ _ _ _ _ (h.drewN n).box]; rfl) h.le

set_option maxHeartbeats 2000000 in
theorem refNext_any (w : World) (g : Nat) (K : Ctx) (o : Option (List Int)) (h : Rdr w g K o) :
    Calls Tryd.prog 86 #[.pointer (some ⟨g, 0, none⟩)] w fun e w' => e = .returned (.int .u8 (nextR o).1) ∧ Rdr w' g K (nextR o).2 ∧ Only [g] w w' := by
  obtain ⟨i, bad, hs, rfl⟩ := h
  have c0 := row_cells hs.box
  have f0 := fun o => frozen_of_row _ _ o _ _ hs.box
  have hroom := hs.room
  have HS := Lib.hid hs
  obtain ⟨a, c, bs, f⟩ := K
  simp only at *
  cases bad
  · rcases Nat.lt_or_ge i bs.length with hi | hi
    · obtain ⟨b, o, x, rfl, hx, x0⟩ := hs.inb.one hi
      simp only at hx x0
      obtain ⟨r0, r1⟩ := hs.byte x (List.mem_of_getElem? hx)
      have hb : b < g := hs.low b o rfl (show 1 ≤ bs.length by omega)
      have c1 := row_cells ((hs.put 0 hi).box)
      have hw : (255 - x) % 256 = 255 - x := by omega
      have HX := Lib.hid hx
      have HI := Lib.hid hi
      have hlt : (i : Int) < (bs.length : Int) := by omega
      have hge : ¬ (bs.length : Int) ≤ (i : Int) := by omega
      clear hs hx
      cases f
      · have HT := Lib.hid (show leftR ⟨some ⟨b, o, none⟩, c, bs, false⟩ i false = some (x :: (tf false bs).drop (i + 1)) by
          unfold leftR
          rw [if_neg (by simp)]
          exact congrArg some ((drop_cases (l := bs) (i := i)).elim (fun h => by omega) (fun ⟨y, h1, h2⟩ => by rw [HX.out] at h1; injection h1 with h1; subst h1; exact h2)))
        go_enter Tryd.func86, Tryd.ntmps86
        go_wp2_with fail
        go_quiet (fail)
        go_wp2_with fail
        go_quiet (fail)
        go_wp2_with fail
        go_ret
        rw [HT.out]
        exact ⟨rfl, ⟨i + 1, false, HS.out.put _ HI.out, rfl⟩, only_drewSet _ _ _ _ _⟩
      · have hx2 : (tf true bs)[i]? = some (255 - x) := by rw [tf, if_pos rfl, flip, List.getElem?_map, HX.out]; rfl
        have HT := Lib.hid (show leftR ⟨some ⟨b, o, none⟩, c, bs, true⟩ i false = some ((255 - x) :: (tf true bs).drop (i + 1)) by
          unfold leftR
          rw [if_neg (by simp)]
          exact congrArg some ((drop_cases (l := tf true bs) (i := i)).elim (fun h => by rw [tf_len] at h; omega) (fun ⟨y, h1, h2⟩ => by rw [hx2] at h1; injection h1 with h1; subst h1; exact h2)))
        clear hx2
        go_enter Tryd.func86, Tryd.ntmps86
        go_wp2_with fail
        go_quiet (fail)
        go_wp2_with fail
        go_quiet (fail)
        go_wp2_with fail
        go_ret
        rw [HT.out]
        exact ⟨rfl, ⟨i + 1, false, HS.out.put _ HI.out, rfl⟩, only_drewSet _ _ _ _ _⟩
    · have HT := Lib.hid (show leftR ⟨a, c, bs, f⟩ i false = some [] by
        unfold leftR
        rw [if_neg (by simp)]
        exact congrArg some (List.drop_eq_nil_of_le (by rw [tf_len]; exact hi)))
      have hge : (bs.length : Int) ≤ (i : Int) := by omega
      clear hs
      go_enter Tryd.func86, Tryd.ntmps86
      go_wp2_with fail
      go_quiet (fail)
      go_wp2_with fail
      go_ret
      rw [HT.out]
      exact ⟨rfl, ⟨i, true, HS.out.fail _, rfl⟩, only_drewSet _ _ _ _ _⟩
  · clear hs
    go_enter Tryd.func86, Tryd.ntmps86
    go_wp2_with fail
    go_quiet (fail)
    go_wp2_with fail
    go_ret
    exact ⟨rfl, ⟨i, true, HS.out.fail _, rfl⟩, only_drewSet _ _ _ _ _⟩
end Go.Proofs.YtdlgngnibbaamaaDoor
namespace Go.Proofs.YtdlgngnibbaamaaDoor
open Go.RowKit
set_option maxRecDepth 100000

/-- How much is left, as the reader's box tells it. -/
def leftO (w : World) (g : Nat) (n : Nat) : Nat := match w.cell? ⟨g, 3, none⟩ with
  | some (.bool true) => 0
  | _ => 1 + (n - (match w.cell? ⟨g, 1, none⟩ with | some (.int _ i) => i.toNat | _ => 0))
def lenO : Option (List Int) → Nat
  | some R => 1 + R.length
  | none => 0
theorem Rdr.left {w : World} {g : Nat} {K : Ctx} {o : Option (List Int)} (h : Rdr w g K o) : leftO w g K.bs.length = lenO o := by
  obtain ⟨i, bad, h, rfl⟩ := h
  unfold leftO leftR lenO
  rw [row_cells h.box 3, row_cells h.box 1]
  cases bad <;> simp [tf_len]
theorem Rdr.ok {w : World} {g : Nat} {K : Ctx} {R : List Int} (h : Rdr w g K (some R)) : ∃ i, w.heap[g]? = some (.cells #[.slice K.a K.bs.length K.c, .int .i64 i, .bool K.f, .bool false] 82 (0, 0)) := by
  obtain ⟨i, bad, h, e⟩ := h
  cases bad
  · exact ⟨i, h.box⟩
  · simp [leftR] at e
theorem Rdr.bad {w : World} {g : Nat} {K : Ctx} (h : Rdr w g K none) : ∃ i, w.heap[g]? = some (.cells #[.slice K.a K.bs.length K.c, .int .i64 i, .bool K.f, .bool true] 82 (0, 0)) := by
  obtain ⟨i, bad, h, e⟩ := h
  cases bad
  · simp [leftR] at e
  · exact ⟨i, h.box⟩
theorem Rdr.fail {w : World} {g : Nat} {K : Ctx} {o : Option (List Int)} (h : Rdr w g K o) : Rdr (w.setCell ⟨g, 3, none⟩ (.bool true)) g K none := by
  obtain ⟨i, bad, h, -⟩ := h
  exact ⟨i, true, h.fail 0, rfl⟩
theorem Rdr.frozen {w : World} {g : Nat} {K : Ctx} {o : Option (List Int)} (h : Rdr w g K o) : ∀ p, w.frozen? ⟨g, p, none⟩ = false := by
  obtain ⟨i, bad, h, -⟩ := h
  exact fun p => frozen_of_row _ _ p _ _ h.box
theorem Rdr.room {w : World} {g : Nat} {K : Ctx} {R : List Int} (h : Rdr w g K (some R)) : R.length ≤ 1000 := by
  obtain ⟨i, bad, h, e⟩ := h
  have := h.room
  cases bad
  · simp [leftR] at e; subst e; rw [List.length_drop, tf_len]; omega
  · simp [leftR] at e
/-- What a text's reading says. -/
def RTextRel (R : List Int) (s : ByteArray) (o : Option (List Int)) : Prop := (∃ R', o = some R' ∧ TextRel R s true R') ∨ (o = none ∧ s.size ≤ R.length ∧ ∃ R', TextRel R ⟨#[]⟩ false R')
def RReadsText (R : List Int) (g : Nat) (K : Ctx) (w : World) (e : Ending) (w' : World) : Prop := ∃ s o, e = .returned (.string s) ∧ Rdr w' g K o ∧ Only [g] w w' ∧ RTextRel R s o
structure RTextAt (w wr : World) (g : Nat) (K : Ctx) (R acc : List Int) (o : Option (List Int)) (u : Value) : Prop where
  own : OwnB wr w.heap.size u acc
  src : Rdr wr g K o
  only : Only [g] w wr
  inv : (∃ Rk, o = some Rk ∧ TextInv R acc Rk) ∨ (o = none ∧ acc.length ≤ R.length ∧ ∃ R', TextRel R ⟨#[]⟩ false R')
  size : g < w.heap.size
  room : R.length ≤ 1000
theorem RTextAt.next {w wr w1 : World} {g : Nat} {K : Ctx} {R acc : List Int} {o : Option (List Int)} {u : Value} (h : RTextAt w wr g K R acc o u) (ho : Only [g] wr w1) : OwnB w1 w.heap.size u acc ∧ Only [g] w w1 :=
  ⟨h.own.only ho (by have := h.size; simp; omega), h.only.trans ho⟩
theorem RTextAt.step {w wr w1 w2 : World} {g : Nat} {K : Ctx} {R acc : List Int} {o o1 : Option (List Int)} {u u2 : Value} {x : Int} (h : RTextAt w wr g K R acc o u) (ho : Only [g] wr w1) (hs : Rdr w1 g K o1) (hg : Grew w.heap.size w1 w2 u u2 (acc ++ [x])) (hi : (∃ Rk, o1 = some Rk ∧ TextInv R (acc ++ [x]) Rk) ∨ (o1 = none ∧ (acc ++ [x]).length ≤ R.length ∧ ∃ R', TextRel R ⟨#[]⟩ false R')) : RTextAt w w2 g K R (acc ++ [x]) o1 u2 := by
  have hb : ∀ b ∈ u.ownBlock.toList, w.heap.size ≤ b := fun b hb => (h.own.block b (by simpa using hb)).1
  refine ⟨hg.own, hs.only (only_grow hg.grow) (fun b hb' => by have := hb b hb'; have := h.size; omega), (h.only.trans ho).then_ (only_grow hg.grow) (fun b hb' => .inr (hb b hb')), hi, h.size, h.room⟩
theorem RTextAt.str {w wr : World} {g : Nat} {K : Ctx} {R acc : List Int} {a : Option Addr} {c n : Nat} {o : Option (List Int)} {w1 : World} (h : RTextAt w wr g K R acc o (.slice a n c)) (ho : Only [g] wr w1) : (convert 28 9 (.slice a n c)).run Tryd.prog w1 = .ok (.string (strOfNums acc)) w1 := by
  obtain ⟨a', c', e, h1, h2, -, -⟩ := (h.next ho).1.shape
  injection e with e1 e2 e3
  subst e1
  exact run_str w1 a n c acc e2.symm h1 (fun h => (h2 h).2)

set_option maxHeartbeats 4000000 in
theorem rdText_any (w : World) (g : Nat) (K : Ctx) (R : List Int) (h : Rdr w g K (some R)) : Calls Tryd.prog 87 #[.pointer (some ⟨g, 0, none⟩)] w (RReadsText R g K w) := by
  have HS := Lib.hid (show RTextAt w w g K R [] (some R) (.slice none 0 0) from ⟨OwnB.nil _ _, h, Only.refl _ _, .inl ⟨R, rfl, TextInv.start R⟩, h.lt, h.room⟩)
  clear h
  go_enter Tryd.func87, Tryd.ntmps87
  go_wp2_with fail
  go_loopw [3, 4, 5] (fun u _ _ wr => ∃ acc o, RTextAt w wr g K R acc o u) (fun _ _ _ wr => leftO wr g K.bs.length)
  case atStart => exact ⟨[], some R, HS.out⟩
  case round =>
    obtain ⟨acc, o, hT⟩ := hrel
    have HT := Lib.hid hT
    have hz := hT.only.size
    have hroom := hT.room
    obtain ⟨a, c, rfl, -, -, -, -⟩ := hT.own.shape
    have hinv := hT.inv
    have hsrc := hT.src
    clear hT
    rcases hinv with ⟨Rk, rfl, hI⟩ | ⟨rfl, hal, R', hbad⟩
    · have HI := Lib.hid hI
      have hlen := hI.len
      obtain ⟨i, hbx⟩ := hsrc.ok
      have c0 := row_cells hbx
      have HX := Lib.hid hsrc
      clear hI hbx hsrc
      rcases Rk with _ | ⟨x, R1⟩
      · go_wp2_with (first
          | (go_at_call 86; refine (refNext_any wr g K _ HX.out).mono ?_; simp only [nextR]; rintro e w1 ⟨rfl, hs1, ho1⟩; have S1 := Lib.hid (And.intro hs1 ho1); clear hs1 ho1 c0)
          | (go_at_call 86; refine (refNext_any w1 g K _ S1.out.1).mono ?_; simp only [nextR]; rintro e w2 ⟨rfl, hs2, ho2⟩; have kc := HT.out.str (S1.out.2.trans ho2); have S2 := Lib.hid (And.intro hs2 ho2); clear hs2 ho2))
        go_ret
        exact ⟨_, _, rfl, S2.out.1, (HT.out.only.trans S1.out.2).trans S2.out.2, .inr ⟨rfl, by rw [strOfNums_size]; have := hlen; simp at this; omega, [], HI.out.fail (.inl rfl) (by simp)⟩⟩
      · obtain ⟨x0, x1⟩ := HX.out.isB x (by simp)
        by_cases hx : x = 0
        · subst hx
          rcases R1 with _ | ⟨y, R2⟩
          · go_wp2_with (first
              | (go_at_call 86; refine (refNext_any wr g K _ HX.out).mono ?_; simp only [nextR]; rintro e w1 ⟨rfl, hs1, ho1⟩; have S1 := Lib.hid (And.intro hs1 ho1); clear hs1 ho1 c0)
              | (go_at_call 86; refine (refNext_any w1 g K _ S1.out.1).mono ?_; simp only [nextR]; rintro e w2 ⟨rfl, hs2, ho2⟩; have kc := HT.out.str (S1.out.2.trans ho2); have S2 := Lib.hid (And.intro hs2 ho2); clear hs2 ho2))
            go_ret
            exact ⟨_, _, rfl, S2.out.1, (HT.out.only.trans S1.out.2).trans S2.out.2, .inr ⟨rfl, by rw [strOfNums_size]; have := hlen; simp at this; omega, [], HI.out.fail (.inr (.inl rfl)) (by simp)⟩⟩
          · obtain ⟨y0, y1⟩ := HX.out.isB y (by simp)
            by_cases hy : y = 0
            · subst hy
              go_wp2_with (first
                | (go_at_call 86; refine (refNext_any wr g K _ HX.out).mono ?_; simp only [nextR]; rintro e w1 ⟨rfl, hs1, ho1⟩; have S1 := Lib.hid (And.intro hs1 ho1); clear hs1 ho1 c0)
                | (go_at_call 86; refine (refNext_any w1 g K _ S1.out.1).mono ?_; simp only [nextR]; rintro e w2 ⟨rfl, hs2, ho2⟩; have kc := HT.out.str (S1.out.2.trans ho2); have S2 := Lib.hid (And.intro hs2 ho2); clear hs2 ho2))
              go_ret
              exact ⟨_, _, rfl, S2.out.1, (HT.out.only.trans S1.out.2).trans S2.out.2, .inl ⟨_, rfl, HI.out.done⟩⟩
            · by_cases hy2 : y = 255
              · subst hy2
                go_wp2_with (first
                  | (go_at_call 86; refine (refNext_any wr g K _ HX.out).mono ?_; simp only [nextR]; rintro e w1 ⟨rfl, hs1, ho1⟩; have S1 := Lib.hid (And.intro hs1 ho1); clear hs1 ho1 c0)
                  | (go_at_call 86; refine (refNext_any w1 g K _ S1.out.1).mono ?_; simp only [nextR]; rintro e w2 ⟨rfl, hs2, ho2⟩; have oo := HT.out.next (S1.out.2.trans ho2); have S2 := Lib.hid (And.intro hs2 (And.intro ho2 (And.intro oo.1 oo.2.size))); clear hs2 ho2 oo)
                  | (at_builtin; refine apL _ rfl (.tmp 28) (.tmp 29) rfl w.heap.size _ _ rfl S2.out.2.2.1 [0] _ 1 1 rfl rfl rfl rfl (by simp at hlen; omega) S2.out.2.2.2 ?_; intro v3 w3 hg3; have G3 := Lib.hid (HT.out.step (S1.out.2.trans S2.out.2.1) S2.out.1 hg3 (.inl ⟨_, rfl, HI.out.zero⟩)); clear hg3))
                go_roundw
                case rel => exact ⟨_, _, G3.out⟩
                case measure => rw [G3.out.src.left, HX.out.left]; simp [lenO]; omega
              · have hy3 : ((y : Int) == 0) = false := by simp [hy]
                have hy4 : ((y : Int) == 255) = false := by simp [hy2]
                have HN := Lib.hid (And.intro hy hy2)
                clear hy hy2
                go_wp2_with (first
                  | (go_at_call 86; refine (refNext_any wr g K _ HX.out).mono ?_; simp only [nextR]; rintro e w1 ⟨rfl, hs1, ho1⟩; have S1 := Lib.hid (And.intro hs1 ho1); clear hs1 ho1 c0)
                  | (go_at_call 86; refine (refNext_any w1 g K _ S1.out.1).mono ?_; simp only [nextR]; rintro e w2 ⟨rfl, hs2, ho2⟩; have f2 := hs2.frozen; have o3 := ho2.trans (only_setO w2 g 3 (.bool true)); have oo := HT.out.next (S1.out.2.trans o3); obtain ⟨i2, hb2⟩ := hs2.ok; have c2 := row_cells hb2; have S2 := Lib.hid (show ∃ w5, w5 = w2.setCell ⟨g, 3, none⟩ (.bool true) ∧ Rdr w5 g K none ∧ Only [g] w1 w5 ∧ OwnB w5 w.heap.size (.slice a acc.length c) acc ∧ w.heap.size ≤ w5.heap.size ∧ w2.heap.size = w5.heap.size from ⟨_, rfl, hs2.fail, o3, oo.1, oo.2.size, by simp [World.setCell]⟩); clear hs2 ho2 oo o3 hb2)
                  | (at_builtin; obtain ⟨w5, e5, q1, q2, q3, q4, q5⟩ := S2.out; rw [q5, ← e5]; refine apL _ rfl (.tmp 28) (.tmp 29) rfl w.heap.size _ _ rfl q3 [0] _ 1 1 rfl rfl rfl rfl (by simp at hlen; omega) q4 ?_; intro v3 w3 hg3; have G3 := Lib.hid (HT.out.step (S1.out.2.trans q2) q1 hg3 (.inr ⟨rfl, by simp at hlen ⊢; omega, _, HI.out.fail (R' := []) (.inr (.inr ⟨y, R2, rfl, HN.out.1, HN.out.2⟩)) (by simp)⟩)); clear hg3 e5 q1 q2 q3 q4 q5))
                go_roundw
                case rel => exact ⟨_, _, G3.out⟩
                case measure => rw [G3.out.src.left, HX.out.left]; simp [lenO] <;> omega
        · have hx3 : ((x : Int) == 0) = false := by simp [hx]
          have hxw : x % 256 = x := by omega
          have HN := Lib.hid hx
          clear hx
          go_wp2_with (first
            | (go_at_call 86; refine (refNext_any wr g K _ HX.out).mono ?_; simp only [nextR]; rintro e w1 ⟨rfl, hs1, ho1⟩; have oo := HT.out.next ho1; have S1 := Lib.hid (And.intro hs1 (And.intro ho1 (And.intro oo.1 oo.2.size))); clear hs1 ho1 oo c0)
            | (at_builtin; refine apL _ rfl (.tmp 15) (.tmp 17) rfl w.heap.size _ _ rfl S1.out.2.2.1 [x] _ 1 1 rfl rfl rfl rfl (by simp at hlen; omega) S1.out.2.2.2 ?_; intro v3 w3 hg3; have G3 := Lib.hid (HT.out.step S1.out.2.1 S1.out.1 hg3 (.inl ⟨_, rfl, HI.out.plain HN.out ⟨x0, x1⟩⟩)); clear hg3))
          go_roundw
          case rel => exact ⟨_, _, G3.out⟩
          case measure => rw [G3.out.src.left, HX.out.left]; simp [lenO] <;> omega
    · obtain ⟨i, hbx⟩ := hsrc.bad
      have c0 := row_cells hbx
      have HX := Lib.hid (And.intro hsrc hbad)
      have kc := HT.out.str (Only.refl _ _)
      clear hbx hsrc hbad
      go_wp2_with fail
      go_ret
      exact ⟨_, _, rfl, HX.out.1, HT.out.only, .inr ⟨rfl, by rw [strOfNums_size]; omega, _, HX.out.2⟩⟩
end Go.Proofs.YtdlgngnibbaamaaDoor
namespace Go.Proofs.YtdlgngnibbaamaaDoor
open Go.RowKit
set_option maxRecDepth 100000

def moreR : Option (List Int) → Bool × Option (List Int)
  | some (x :: r) => if x = 0 then (false, some r) else if x = 1 then (true, some r) else (false, none)
  | _ => (false, none)

set_option maxHeartbeats 2000000 in
theorem rdMore_any (w : World) (g : Nat) (K : Ctx) (o : Option (List Int)) (h : Rdr w g K o) :
    Calls Tryd.prog 88 #[.pointer (some ⟨g, 0, none⟩)] w fun e w' => e = .returned (.bool (moreR o).1) ∧ Rdr w' g K (moreR o).2 ∧ Only [g] w w' := by
  have HX := Lib.hid h
  have hN := refNext_any w g K o h
  clear h
  rcases o with _ | R
  · go_enter Tryd.func88, Tryd.ntmps88
    go_wp2_with (first | (go_at_call 86; refine hN.mono ?_; simp only [nextR]; rintro e w1 ⟨rfl, hs1, ho1⟩; have S1 := Lib.hid (And.intro hs1 ho1); clear hs1 ho1))
    go_ret
    exact ⟨rfl, S1.out.1, S1.out.2⟩
  · rcases R with _ | ⟨x, r⟩
    · go_enter Tryd.func88, Tryd.ntmps88
      go_wp2_with (first | (go_at_call 86; refine hN.mono ?_; simp only [nextR]; rintro e w1 ⟨rfl, hs1, ho1⟩; have S1 := Lib.hid (And.intro hs1 ho1); clear hs1 ho1))
      go_ret
      exact ⟨rfl, S1.out.1, S1.out.2⟩
    · obtain ⟨x0, x1⟩ := HX.out.isB x (by simp)
      by_cases h0 : x = 0
      · subst h0
        go_enter Tryd.func88, Tryd.ntmps88
        go_wp2_with (first | (go_at_call 86; refine hN.mono ?_; simp only [nextR]; rintro e w1 ⟨rfl, hs1, ho1⟩; have S1 := Lib.hid (And.intro hs1 ho1); clear hs1 ho1))
        go_ret
        exact ⟨rfl, S1.out.1, S1.out.2⟩
      · by_cases h1 : x = 1
        · subst h1
          go_enter Tryd.func88, Tryd.ntmps88
          go_wp2_with (first | (go_at_call 86; refine hN.mono ?_; simp only [nextR]; rintro e w1 ⟨rfl, hs1, ho1⟩; obtain ⟨i, hb⟩ := hs1.ok; have c1 := row_cells hb; have S1 := Lib.hid (And.intro hs1 ho1); clear hs1 ho1 hb))
          go_ret
          exact ⟨rfl, S1.out.1, S1.out.2⟩
        · have hx1 : ((x : Int) == 1) = false := by simp [h1]
          have hx2 : 1 < x := by omega
          have HM := Lib.hid (show moreR (some (x :: r)) = (false, none) by simp [moreR, h0, h1])
          clear h0 h1
          go_enter Tryd.func88, Tryd.ntmps88
          go_wp2_with (first | (go_at_call 86; refine hN.mono ?_; simp only [nextR]; rintro e w1 ⟨rfl, hs1, ho1⟩; have f1 := hs1.frozen; obtain ⟨i, hb⟩ := hs1.ok; have c1 := row_cells hb; have S1 := Lib.hid (And.intro hs1.fail (ho1.trans (only_setO w1 g 3 (.bool true)))); clear hs1 ho1 hb))
          go_ret
          rw [HM.out]
          exact ⟨rfl, S1.out.1, S1.out.2⟩
end Go.Proofs.YtdlgngnibbaamaaDoor
namespace Go.Proofs.YtdlgngnibbaamaaDoor
open Go.RowKit
set_option maxRecDepth 100000

/-- What a value's reading says, so deep: o is what is left, or nothing, if it failed. -/
def RVRel (R : List Int) (deep : Int) (v : V) (o : Option (List Int)) : Prop :=
  (∀ R', o = some R' → (v.shape = true → R = keyV v ++ R') ∧ R'.length ≤ R.length) ∧ (∀ v' Q, rightV deep v' = 0 → v'.fit → R = keyV v' ++ Q → o = some Q ∧ v = v')
theorem rvrel_ok {R R' : List Int} {v : V} (h : VRel R v true R') (deep : Int) : RVRel R deep v (some R') := by
  refine ⟨fun Q e => ?_, fun v' Q hr hf e => ?_⟩
  · injection e with e; subst e; exact ⟨h.1 rfl, h.2.2⟩
  · obtain ⟨-, rfl, rfl⟩ := h.2.1 v' Q (right_shape v' deep hr) hf e
    exact ⟨rfl, rfl⟩
theorem rvrel_bad {R R' : List Int} {v : V} (h : VRel R v false R') (deep : Int) (v2 : V) : RVRel R deep v2 none := by
  refine ⟨fun Q e => (by cases e), fun v' Q hr hf e => ?_⟩
  have := (h.2.1 v' Q (right_shape v' deep hr) hf e).1
  cases this
theorem rvrel_nil (deep : Int) (v : V) : RVRel [] deep v none := ⟨fun Q e => (by cases e), fun _ _ _ _ e => absurd e not_key_nil⟩
theorem rvrel_kind {x : Int} {R1 : List Int} (hx : x < 1 ∨ 11 < x) (deep : Int) (v : V) : RVRel (x :: R1) deep v none := by
  refine ⟨fun Q e => (by cases e), fun v' Q hr hf e => ?_⟩
  obtain ⟨k, n, s, l, d, rfl, rfl, h1, h2, -⟩ := key_head (right_shape v' deep hr) e
  omega
theorem rvrel_deep {x : Int} {R1 : List Int} {deep : Int} (hx : x = 5 ∨ x = 6) (hd : 20 < deep) (v : V) : RVRel (x :: R1) deep v none := by
  refine ⟨fun Q e => (by cases e), fun v' Q hr hf e => ?_⟩
  obtain ⟨k, n, s, l, d, rfl, rfl, -⟩ := key_head (right_shape v' deep hr) e
  rw [rightV, if_pos ⟨hx, hd⟩] at hr
  cases hr
/-- How far a list has come. -/
structure RPInv (R : List Int) (deep : Int) (acc : List V) (o : Option (List Int)) : Prop where
  eq : ∀ Rk, o = some Rk → ((∀ x ∈ acc, x.shape = true) → R = pL acc ++ Rk) ∧ acc.length + Rk.length ≤ R.length
  all : ∀ l' Q, (∀ x ∈ l', rightV deep x = 0 ∧ x.fit) → R = keyL l' ++ Q → ∃ Rk l'', o = some Rk ∧ l' = acc ++ l'' ∧ Rk = keyL l'' ++ Q
  len : acc.length ≤ R.length
theorem RPInv.start (R : List Int) (deep : Int) : RPInv R deep [] (some R) := ⟨fun Rk e => (by injection e with e; subst e; exact ⟨fun _ => rfl, by simp⟩), fun l' Q _ h => ⟨R, l', rfl, rfl, h⟩, by simp⟩
theorem RPInv.more {R : List Int} {deep : Int} {acc : List V} {R1 : List Int} {x : V} {o : Option (List Int)} (h : RPInv R deep acc (some (1 :: R1))) (k : RVRel R1 deep x o) : RPInv R deep (acc ++ [x]) o := by
  obtain ⟨e1, e2⟩ := h.eq _ rfl
  refine ⟨fun Rk e => ⟨fun hs => ?_, ?_⟩, fun l' Q hg e => ?_, ?_⟩
  · rw [e1 (fun y hy => hs y (by simp [hy])), (k.1 Rk e).1 (hs x (by simp)), pL, pL, List.flatMap_append]; simp
  · have := (k.1 Rk e).2; simp at *; omega
  · obtain ⟨Rk, l'', e3, rfl, e4⟩ := h.all l' Q hg e
    injection e3 with e3
    subst e3
    cases l'' with
    | nil => simp [keyL] at e4
    | cons y r =>
      rw [keyL] at e4
      simp only [List.cons_append, List.cons.injEq, true_and, List.append_assoc] at e4
      obtain ⟨q1, rfl⟩ := k.2 y _ (hg y (by simp)).1 (hg y (by simp)).2 e4
      exact ⟨_, r, q1, by simp, rfl⟩
  · simp at *; omega
theorem RPInv.done {R : List Int} {deep : Int} {acc : List V} {R1 : List Int} (h : RPInv R (deep + 1) acc (some (0 :: R1))) : RVRel (6 :: R) deep (.mk 6 0 ⟨#[]⟩ acc []) (some R1) := by
  obtain ⟨e1, e2⟩ := h.eq _ rfl
  refine ⟨fun R' e => ?_, fun v' Q hr hf e => ?_⟩
  · injection e with e
    subst e
    refine ⟨fun hs => ?_, by simp at *; omega⟩
    obtain ⟨-, hs2, -⟩ := (V.shape_mk ..).1 hs
    rw [keyV, e1 hs2, keyL_eq]; simp
  · obtain ⟨k, n, s, l, d, rfl, rfl, -, -, ha, -, he⟩ := key_head (right_shape v' deep hr) e
    simp at he
    obtain ⟨a1, a2, a3, a4⟩ := alone_parts ha
    obtain ⟨-, hl, -⟩ := right_parts hr
    obtain ⟨-, fl, -⟩ := (V.fit_mk ..).1 hf
    obtain ⟨Rk, l'', e3, rfl, e4⟩ := h.all l Q (fun x hx => ⟨hl x hx, fl x hx⟩) he
    injection e3 with e3
    subst e3
    cases l'' with
    | nil =>
      simp [keyL] at e4
      subst e4
      exact ⟨rfl, by rw [a1 (by omega) (by omega) (by omega), a2 (by omega) (by omega) (by omega), a4 (by omega)]; simp⟩
    | cons y r => simp [keyL] at e4
theorem RPInv.fail {R : List Int} {deep : Int} {acc : List V} {o : Option (List Int)} (h : RPInv R (deep + 1) acc o) (hk : o = none ∨ o = some [] ∨ ∃ y r, o = some (y :: r) ∧ y ≠ 0 ∧ y ≠ 1) (v : V) : RVRel (6 :: R) deep v none := by
  refine ⟨fun Q e => (by cases e), fun v' Q hr hf e => ?_⟩
  obtain ⟨k, n, s, l, d, rfl, rfl, -, -, ha, -, he⟩ := key_head (right_shape v' deep hr) e
  simp at he
  obtain ⟨-, hl, -⟩ := right_parts hr
  obtain ⟨-, fl, -⟩ := (V.fit_mk ..).1 hf
  obtain ⟨Rk, l'', e3, rfl, e4⟩ := h.all l Q (fun x hx => ⟨hl x hx, fl x hx⟩) he
  exfalso
  rcases hk with rfl | rfl | ⟨y, r, rfl, h0, h1⟩
  · cases e3
  · injection e3 with e3; subst e3; cases l'' <;> simp [keyL] at e4
  · injection e3 with e3
    subst e3
    cases l'' with
    | nil => simp [keyL] at e4; omega
    | cons z q => simp [keyL] at e4; omega
/-- How far a document has come. -/
structure RDInv (R : List Int) (deep : Int) (acc : List (ByteArray × V)) (o : Option (List Int)) : Prop where
  eq : ∀ Rk, o = some Rk → ((∀ x ∈ acc, x.2.shape = true) → R = pD acc ++ Rk) ∧ acc.length + Rk.length ≤ R.length
  all : ∀ l' Q, (∀ x ∈ l', rightV deep x.2 = 0 ∧ x.2.fit) → R = keyD l' ++ Q → ∃ Rk l'', o = some Rk ∧ l' = acc ++ l'' ∧ Rk = keyD l'' ++ Q
  len : acc.length ≤ R.length
theorem RDInv.start (R : List Int) (deep : Int) : RDInv R deep [] (some R) := ⟨fun Rk e => (by injection e with e; subst e; exact ⟨fun _ => rfl, by simp⟩), fun l' Q _ h => ⟨R, l', rfl, rfl, h⟩, by simp⟩
theorem RDInv.more {R : List Int} {deep : Int} {acc : List (ByteArray × V)} {R1 R2 : List Int} {s : ByteArray} {x : V} {o : Option (List Int)} (h : RDInv R deep acc (some (1 :: R1))) (t : TextRel R1 s true R2) (k : RVRel R2 deep x o) : RDInv R deep (acc ++ [(s, x)]) o := by
  obtain ⟨e1, e2⟩ := h.eq _ rfl
  have t3 := t.2.2.1
  refine ⟨fun Rk e => ⟨fun hs => ?_, ?_⟩, fun l' Q hg e => ?_, ?_⟩
  · rw [e1 (fun y hy => hs y (by simp [hy])), t.1 rfl, (k.1 Rk e).1 (hs (s, x) (by simp)), pD, pD, List.flatMap_append]; simp
  · have := (k.1 Rk e).2; simp at *; omega
  · obtain ⟨Rk, l'', e3, rfl, e4⟩ := h.all l' Q hg e
    injection e3 with e3
    subst e3
    cases l'' with
    | nil => simp [keyD] at e4
    | cons y r =>
      obtain ⟨ys, yv⟩ := y
      rw [keyD] at e4
      simp only [List.cons_append, List.cons.injEq, true_and, List.append_assoc] at e4
      obtain ⟨-, q2, q3⟩ := t.2.1 _ _ e4
      obtain ⟨q1, rfl⟩ := k.2 yv _ (hg (ys, yv) (by simp)).1 (hg (ys, yv) (by simp)).2 q3
      rw [bsI_inj q2]
      exact ⟨_, r, q1, by simp, rfl⟩
  · simp at *; omega
theorem RDInv.stop {R : List Int} {deep : Int} {acc : List (ByteArray × V)} {R1 R' : List Int} (h : RDInv R deep acc (some (1 :: R1))) (t : TextRel R1 ⟨#[]⟩ false R') (f : ByteArray × V) : RDInv R deep (acc ++ [f]) none := by
  obtain ⟨e1, e2⟩ := h.eq _ rfl
  refine ⟨fun Rk e => (by cases e), fun l' Q hg e => ?_, by simp at *; omega⟩
  obtain ⟨Rk, l'', e3, rfl, e4⟩ := h.all l' Q hg e
  injection e3 with e3
  subst e3
  exfalso
  cases l'' with
  | nil => simp [keyD] at e4
  | cons y r =>
    obtain ⟨ys, yv⟩ := y
    rw [keyD] at e4
    simp only [List.cons_append, List.cons.injEq, true_and, List.append_assoc] at e4
    have := (t.2.1 _ _ e4).1
    cases this
theorem RDInv.done {R : List Int} {deep : Int} {acc : List (ByteArray × V)} {R1 : List Int} (h : RDInv R (deep + 1) acc (some (0 :: R1))) : RVRel (5 :: R) deep (.mk 5 0 ⟨#[]⟩ [] acc) (some R1) := by
  obtain ⟨e1, e2⟩ := h.eq _ rfl
  refine ⟨fun R' e => ?_, fun v' Q hr hf e => ?_⟩
  · injection e with e
    subst e
    refine ⟨fun hs => ?_, by simp at *; omega⟩
    obtain ⟨-, -, hs2⟩ := (V.shape_mk ..).1 hs
    rw [keyV, e1 hs2, keyD_eq]; simp
  · obtain ⟨k, n, s, l, d, rfl, rfl, -, -, ha, -, he⟩ := key_head (right_shape v' deep hr) e
    simp at he
    obtain ⟨a1, a2, a3, a4⟩ := alone_parts ha
    obtain ⟨-, -, hd⟩ := right_parts hr
    obtain ⟨-, -, fd⟩ := (V.fit_mk ..).1 hf
    obtain ⟨Rk, l'', e3, rfl, e4⟩ := h.all d Q (fun x hx => ⟨(hd x hx).2, fd x hx⟩) he
    injection e3 with e3
    subst e3
    cases l'' with
    | nil =>
      simp [keyD] at e4
      subst e4
      exact ⟨rfl, by rw [a1 (by omega) (by omega) (by omega), a2 (by omega) (by omega) (by omega), a3 (by omega)]; simp⟩
    | cons y r => obtain ⟨ys, yv⟩ := y; simp [keyD] at e4
theorem RDInv.fail {R : List Int} {deep : Int} {acc : List (ByteArray × V)} {o : Option (List Int)} (h : RDInv R (deep + 1) acc o) (hk : o = none ∨ o = some [] ∨ ∃ y r, o = some (y :: r) ∧ y ≠ 0 ∧ y ≠ 1) (v : V) : RVRel (5 :: R) deep v none := by
  refine ⟨fun Q e => (by cases e), fun v' Q hr hf e => ?_⟩
  obtain ⟨k, n, s, l, d, rfl, rfl, -, -, ha, -, he⟩ := key_head (right_shape v' deep hr) e
  simp at he
  obtain ⟨-, -, hd⟩ := right_parts hr
  obtain ⟨-, -, fd⟩ := (V.fit_mk ..).1 hf
  obtain ⟨Rk, l'', e3, rfl, e4⟩ := h.all d Q (fun x hx => ⟨(hd x hx).2, fd x hx⟩) he
  exfalso
  rcases hk with rfl | rfl | ⟨y, r, rfl, h0, h1⟩
  · cases e3
  · injection e3 with e3
    subst e3
    cases l'' with
    | nil => simp [keyD] at e4
    | cons z q => obtain ⟨zs, zv⟩ := z; simp [keyD] at e4
  · injection e3 with e3
    subst e3
    cases l'' with
    | nil => simp [keyD] at e4; omega
    | cons z q => obtain ⟨zs, zv⟩ := z; simp [keyD] at e4; omega
end Go.Proofs.YtdlgngnibbaamaaDoor
namespace Go.Proofs.YtdlgngnibbaamaaDoor
open Go.RowKit
set_option maxRecDepth 100000

def RReadsV (R : List Int) (deep : Int) (g : Nat) (K : Ctx) (w : World) (e : Ending) (w' : World) : Prop := ∃ (t : T) (o : Option (List Int)), e = .returned t.arg ∧ t.Own w' w.heap.size ∧ Rdr w' g K o ∧ Only [g] w w' ∧ RVRel R deep t.val o
def RVAt (R : List Int) : Prop := ∀ (w : World) (g : Nat) (K : Ctx) (deep : Int), 0 ≤ deep → deep ≤ 21 → Rdr w g K (some R) → Calls Tryd.prog 53 #[.pointer (some ⟨g, 0, none⟩), .int .i64 deep] w (RReadsV R deep g K w)
/-- Where it stands behind the kind. -/
structure RBox (w w1 : World) (g : Nat) (K : Ctx) (o : Option (List Int)) : Prop where
  src : Rdr w1 g K o
  only : Only [g] w w1
  zero : w1.heap[w.heap.size]? = some (.cells #[.int .i64 0, .int .i64 0, .string ⟨#[]⟩, .slice none 0 0, .slice none 0 0] 25 (0, 0))
  lt : g < w.heap.size
theorem RBox.start {w w1 : World} {g : Nat} {K : Ctx} {o : Option (List Int)} (hlt : g < w.heap.size) (hs : Rdr w1 g K o) (ho : Only [g] (w.alloc (.cells #[.int .i64 0, .int .i64 0, .string ⟨#[]⟩, .slice none 0 0, .slice none 0 0] 25)) w1) : RBox w w1 g K o :=
  ⟨hs, (Only.of_below (below1 w _)).then_ ho (by simp), keep_row ho (heap_alloc_new w _) (by simp; omega), hlt⟩
theorem RBox.cellsF {w w1 : World} {g : Nat} {K : Ctx} {o : Option (List Int)} (h : RBox w w1 g K o) (v : Value) : (w1.setCell ⟨g, 3, none⟩ v).heap[w.heap.size]? = some (.cells #[.int .i64 0, .int .i64 0, .string ⟨#[]⟩, .slice none 0 0, .slice none 0 0] 25 (0, 0)) :=
  (heap_setCell_other w1 ⟨g, 3, none⟩ w.heap.size v (by have := h.lt; simp; omega)).trans h.zero
/-- It fails: the reader is marked, and a zero is answered. -/
theorem RBox.failed {w w1 : World} {g : Nat} {K : Ctx} {o : Option (List Int)} (h : RBox w w1 g K o) :
    zeroO.Own (((((((w1.setCell ⟨g, 3, none⟩ (.bool true)).setCell ⟨w.heap.size, 0, none⟩ (.int .i64 0)).setCell ⟨w.heap.size, 1, none⟩ (.int .i64 0)).setCell ⟨w.heap.size, 2, none⟩ (.string ⟨#[]⟩)).setCell ⟨w.heap.size, 3, none⟩ (.slice none 0 0)).setCell ⟨w.heap.size, 4, none⟩ (.slice none 0 0))) w.heap.size ∧
    Rdr ((((((w1.setCell ⟨g, 3, none⟩ (.bool true)).setCell ⟨w.heap.size, 0, none⟩ (.int .i64 0)).setCell ⟨w.heap.size, 1, none⟩ (.int .i64 0)).setCell ⟨w.heap.size, 2, none⟩ (.string ⟨#[]⟩)).setCell ⟨w.heap.size, 3, none⟩ (.slice none 0 0)).setCell ⟨w.heap.size, 4, none⟩ (.slice none 0 0)) g K none ∧
    Only [g] w ((((((w1.setCell ⟨g, 3, none⟩ (.bool true)).setCell ⟨w.heap.size, 0, none⟩ (.int .i64 0)).setCell ⟨w.heap.size, 1, none⟩ (.int .i64 0)).setCell ⟨w.heap.size, 2, none⟩ (.string ⟨#[]⟩)).setCell ⟨w.heap.size, 3, none⟩ (.slice none 0 0)).setCell ⟨w.heap.size, 4, none⟩ (.slice none 0 0)) := by
  have hlt := h.lt
  have op := only_put5 (w1.setCell ⟨g, 3, none⟩ (.bool true)) w.heap.size (.int .i64 0) (.int .i64 0) (.string ⟨#[]⟩) (.slice none 0 0) (.slice none 0 0)
  exact ⟨zeroO_own _ _, h.src.fail.only op (by simp; omega), (h.only.trans (only_setO w1 g 3 (.bool true))).then_ op (by simp)⟩

set_option maxHeartbeats 4000000 in
/-- On a reader that has failed. -/
theorem rdValue_none (w : World) (g : Nat) (K : Ctx) (deep : Int) (h : Rdr w g K none) : Calls Tryd.prog 53 #[.pointer (some ⟨g, 0, none⟩), .int .i64 deep] w fun e w' => e = .returned zeroO.arg ∧ zeroO.Own w' w.heap.size ∧ Rdr w' g K none ∧ Only [g] w w' := by
  have hlt := h.lt
  have HS := Lib.hid h
  clear h
  go_enter Tryd.func53, Tryd.ntmps53
  go_wp2_with (first
    | (go_at_call 86; refine (refNext_any _ g K _ (HS.out.then_ (below1 _ _))).mono ?_; simp only [nextR]; rintro e w1 ⟨rfl, hs1, ho1⟩; have f1 := hs1.frozen; obtain ⟨i, hb⟩ := hs1.bad; have c1 := row_cells hb; have hB := RBox.start hlt hs1 ho1; have c2 := (fun v => row_cells (hB.cellsF v)); have f2 := (fun v o => frozen_of_row _ _ o _ _ (hB.cellsF v)); have S1 := Lib.hid hB; clear hs1 ho1 hb hB))
  have cp := row_cells (putfive (S1.out.cellsF (.bool true)) (.int .i64 0) (.int .i64 0) (.string ⟨#[]⟩) (.slice none 0 0) (.slice none 0 0))
  refine bodyPost_ret (v := .agg #[.int .i64 0, .int .i64 0, .string ⟨#[]⟩, .slice none 0 0, .slice none 0 0]) (by simp [results, Tryd.results53, go_sem, cp]) rfl ?_
  exact ⟨rfl, S1.out.failed⟩
set_option maxHeartbeats 4000000 in
theorem rd_nil : RVAt [] := by
  intro w g K deep d0 d1 h
  have hlt := h.lt
  have HS := Lib.hid h
  clear h
  go_enter Tryd.func53, Tryd.ntmps53
  go_wp2_with (first
    | (go_at_call 86; refine (refNext_any _ g K _ (HS.out.then_ (below1 _ _))).mono ?_; simp only [nextR]; rintro e w1 ⟨rfl, hs1, ho1⟩; have f1 := hs1.frozen; obtain ⟨i, hb⟩ := hs1.bad; have c1 := row_cells hb; have hB := RBox.start hlt hs1 ho1; have c2 := (fun v => row_cells (hB.cellsF v)); have f2 := (fun v o => frozen_of_row _ _ o _ _ (hB.cellsF v)); have S1 := Lib.hid hB; clear hs1 ho1 hb hB))
  have cp := row_cells (putfive (S1.out.cellsF (.bool true)) (.int .i64 0) (.int .i64 0) (.string ⟨#[]⟩) (.slice none 0 0) (.slice none 0 0))
  refine bodyPost_ret (v := .agg #[.int .i64 0, .int .i64 0, .string ⟨#[]⟩, .slice none 0 0, .slice none 0 0]) (by simp [results, Tryd.results53, go_sem, cp]) rfl ?_
  obtain ⟨q1, q2, q3⟩ := S1.out.failed
  exact ⟨zeroO, none, rfl, q1, q2, q3, rvrel_nil _ _⟩
/-- The end: the value's box was written, and the result's. -/
theorem RBox.done {w w1 w2 W : World} {g b1 : Nat} {K : Ctx} {R : List Int} {deep : Int} {o1 o : Option (List Int)} {t : T} (h : RBox w w1 g K o1) (hb : w1.heap.size = b1) (ho : Only [g] w1 w2) (hs : Rdr w2 g K o) (hown : t.Own w2 (b1 + 1)) (hW : Only [w.heap.size, b1] w2 W) (hv : RVRel R deep t.val o) :
    t.Own W w.heap.size ∧ Rdr W g K o ∧ Only [g] w W ∧ RVRel R deep t.val o := by
  have h1 : w.heap.size < w1.heap.size := lt_of_block h.zero
  have h2 := h.lt
  refine ⟨hown.keep hW (by simp; omega) (by omega), hs.only hW (by simp; omega), (h.only.trans ho).then_ hW ?_, hv⟩
  intro i hi
  simp at hi
  exact .inr (by omega)
set_option maxHeartbeats 4000000 in
theorem rd_kind (x : Int) (R1 : List Int) (hx : x < 1 ∨ 11 < x) : RVAt (x :: R1) := by
  intro w g K deep d0 d1 h
  obtain ⟨x0, x1⟩ := h.isB x (by simp)
  have hlt := h.lt
  have HS := Lib.hid h
  have HX := Lib.hid hx
  clear h
  rcases hx with hx | hx
  · obtain rfl : x = 0 := by omega
    go_enter Tryd.func53, Tryd.ntmps53
    go_wp2_with (first
      | (go_at_call 86; refine (refNext_any _ g K _ (HS.out.then_ (below1 _ _))).mono ?_; simp only [nextR]; rintro e w1 ⟨rfl, hs1, ho1⟩; have f1 := hs1.frozen; obtain ⟨i, hb⟩ := hs1.ok; have c1 := row_cells hb; have hB := RBox.start hlt hs1 ho1; have c2 := (fun v => row_cells (hB.cellsF v)); have f2 := (fun v o => frozen_of_row _ _ o _ _ (hB.cellsF v)); have c3 := (fun X => row_cells (row_then hB.zero (below1 w1 X))); have f3 := (fun X o => frozen_of_row _ _ o _ _ (row_then hB.zero (below1 w1 X))); have S1 := Lib.hid hB; clear hs1 ho1 hb hB))
    have cp := row_cells (putfive (S1.out.cellsF (.bool true)) (.int .i64 0) (.int .i64 0) (.string ⟨#[]⟩) (.slice none 0 0) (.slice none 0 0))
    refine bodyPost_ret (v := .agg #[.int .i64 0, .int .i64 0, .string ⟨#[]⟩, .slice none 0 0, .slice none 0 0]) (by simp [results, Tryd.results53, go_sem, cp]) rfl ?_
    obtain ⟨q1, q2, q3⟩ := S1.out.failed
    exact ⟨zeroO, none, rfl, q1, q2, q3, rvrel_kind HX.out _ _⟩
  · have hx1 : ¬ x < 1 := by omega
    go_enter Tryd.func53, Tryd.ntmps53
    go_wp2_with (first
      | (go_at_call 86; refine (refNext_any _ g K _ (HS.out.then_ (below1 _ _))).mono ?_; simp only [nextR]; rintro e w1 ⟨rfl, hs1, ho1⟩; have f1 := hs1.frozen; obtain ⟨i, hb⟩ := hs1.ok; have c1 := row_cells hb; have hB := RBox.start hlt hs1 ho1; have c2 := (fun v => row_cells (hB.cellsF v)); have f2 := (fun v o => frozen_of_row _ _ o _ _ (hB.cellsF v)); have c3 := (fun X => row_cells (row_then hB.zero (below1 w1 X))); have f3 := (fun X o => frozen_of_row _ _ o _ _ (row_then hB.zero (below1 w1 X))); have S1 := Lib.hid hB; clear hs1 ho1 hb hB))
    have cp := row_cells (putfive (S1.out.cellsF (.bool true)) (.int .i64 0) (.int .i64 0) (.string ⟨#[]⟩) (.slice none 0 0) (.slice none 0 0))
    refine bodyPost_ret (v := .agg #[.int .i64 0, .int .i64 0, .string ⟨#[]⟩, .slice none 0 0, .slice none 0 0]) (by simp [results, Tryd.results53, go_sem, cp]) rfl ?_
    obtain ⟨q1, q2, q3⟩ := S1.out.failed
    exact ⟨zeroO, none, rfl, q1, q2, q3, rvrel_kind HX.out _ _⟩
set_option maxHeartbeats 4000000 in
theorem rd_plain (x : Int) (R1 : List Int) (hx : x = 1 ∨ x = 2 ∨ x = 11) : RVAt (x :: R1) := by
  intro w g K deep d0 d1 h
  have hlt := h.lt
  have HS := Lib.hid h
  have HX := Lib.hid hx
  clear h
  have b0 : ¬ x < 1 := by omega
  have b1 : ¬ 11 < x := by omega
  have b3 : ((x : Int) == 3) = false := by simp; omega
  have b4 : ((x : Int) == 4) = false := by simp; omega
  have b5 : ((x : Int) == 5) = false := by simp; omega
  have b6 : ((x : Int) == 6) = false := by simp; omega
  have b7 : ((x : Int) == 7) = false := by simp; omega
  have b8 : ((x : Int) == 8) = false := by simp; omega
  have b9 : ((x : Int) == 9) = false := by simp; omega
  have b10 : ((x : Int) == 10) = false := by simp; omega
  clear hx
  go_enter Tryd.func53, Tryd.ntmps53
  go_wp2_with (first
    | (go_at_call 86; refine (refNext_any _ g K _ (HS.out.then_ (below1 _ _))).mono ?_; simp only [nextR]; rintro e w1 ⟨rfl, hs1, ho1⟩; have f1 := hs1.frozen; obtain ⟨i, hb⟩ := hs1.ok; have c1 := row_cells hb; have hB := RBox.start hlt hs1 ho1; have c2 := (fun v => row_cells (hB.cellsF v)); have f2 := (fun v o => frozen_of_row _ _ o _ _ (hB.cellsF v)); have c3 := (fun X => row_cells (row_then hB.zero (below1 w1 X))); have f3 := (fun X o => frozen_of_row _ _ o _ _ (row_then hB.zero (below1 w1 X))); have S1 := Lib.hid hB; clear hs1 ho1 hb hB))
  have z2 := row_then S1.out.zero (below1 w1 (.cells #[.int .i64 x, .int .i64 0, .string ⟨#[]⟩, .slice none 0 0, .slice none 0 0] 25))
  have cp := row_cells (putfive z2 (.int .i64 x) (.int .i64 0) (.string ⟨#[]⟩) (.slice none 0 0) (.slice none 0 0))
  refine bodyPost_ret (v := .agg #[.int .i64 x, .int .i64 0, .string ⟨#[]⟩, .slice none 0 0, .slice none 0 0]) (by simp [results, Tryd.results53, go_sem, cp]) rfl ?_
  obtain ⟨q1, q2, q3, q4⟩ := S1.out.done (b1 := w1.heap.size) (t := .mk x 0 ⟨#[]⟩ none 0 [] none 0 []) (R := x :: R1) (deep := deep) rfl (Only.of_below (below1 _ _)) (S1.out.src.then_ (below1 w1 (.cells #[.int .i64 x, .int .i64 0, .string ⟨#[]⟩, .slice none 0 0, .slice none 0 0] 25))) (plain_own _ _ (by have := HX.out; unfold okInt; omega) (by unfold okInt; omega) (by simp [okLen, ByteArray.size])) ((only_put5 _ w.heap.size (.int .i64 x) (.int .i64 0) (.string ⟨#[]⟩) (.slice none 0 0) (.slice none 0 0)).sub (by simp)) (rvrel_ok (vrel_other (by have := HX.out; omega)) _)
  exact ⟨.mk x 0 ⟨#[]⟩ none 0 [] none 0 [], some R1, rfl, q1, q2, q3, q4⟩
end Go.Proofs.YtdlgngnibbaamaaDoor
namespace Go.Proofs.YtdlgngnibbaamaaDoor
open Go.RowKit
set_option maxRecDepth 100000

theorem rvrel_short {R1 : List Int} {deep : Int} {v : V} (h : R1 = []) : RVRel (9 :: R1) deep v none := by
  subst h
  refine ⟨fun Q e => (by cases e), fun v' Q hr hf e => ?_⟩
  obtain ⟨k, n, s, l, d, rfl, rfl, -, -, -, -, he⟩ := key_head (right_shape v' deep hr) e
  simp at he
set_option maxHeartbeats 4000000 in
theorem rd_deep5 (R1 : List Int) (w : World) (g : Nat) (K : Ctx) (deep : Int) (d0 : 20 < deep) (h : Rdr w g K (some (5 :: R1))) : Calls Tryd.prog 53 #[.pointer (some ⟨g, 0, none⟩), .int .i64 deep] w (RReadsV (5 :: R1) deep g K w) := by
  have hlt := h.lt
  have HS := Lib.hid h
  have HD := Lib.hid d0
  clear h
  go_enter Tryd.func53, Tryd.ntmps53
  go_wp2_with (first
    | (go_at_call 86; refine (refNext_any _ g K _ (HS.out.then_ (below1 _ _))).mono ?_; simp only [nextR]; rintro e w1 ⟨rfl, hs1, ho1⟩; have f1 := hs1.frozen; obtain ⟨i, hb⟩ := hs1.ok; have c1 := row_cells hb; have hB := RBox.start hlt hs1 ho1; have c2 := (fun v => row_cells (hB.cellsF v)); have f2 := (fun v o => frozen_of_row _ _ o _ _ (hB.cellsF v)); have c3 := (fun X => row_cells (row_then hB.zero (below1 w1 X))); have f3 := (fun X o => frozen_of_row _ _ o _ _ (row_then hB.zero (below1 w1 X))); have lt1 : w.heap.size < w1.heap.size := lt_of_block hB.zero; have S1 := Lib.hid hB; clear hs1 ho1 hb hB))
  have cp := row_cells (putfive (S1.out.cellsF (.bool true)) (.int .i64 0) (.int .i64 0) (.string ⟨#[]⟩) (.slice none 0 0) (.slice none 0 0))
  refine bodyPost_ret (v := .agg #[.int .i64 0, .int .i64 0, .string ⟨#[]⟩, .slice none 0 0, .slice none 0 0]) (by simp [results, Tryd.results53, go_sem, cp]) rfl ?_
  obtain ⟨q1, q2, q3⟩ := S1.out.failed
  exact ⟨zeroO, none, rfl, q1, q2, q3, rvrel_deep (by omega) HD.out _⟩
set_option maxHeartbeats 4000000 in
theorem rd_deep6 (R1 : List Int) (w : World) (g : Nat) (K : Ctx) (deep : Int) (d0 : 20 < deep) (h : Rdr w g K (some (6 :: R1))) : Calls Tryd.prog 53 #[.pointer (some ⟨g, 0, none⟩), .int .i64 deep] w (RReadsV (6 :: R1) deep g K w) := by
  have hlt := h.lt
  have HS := Lib.hid h
  have HD := Lib.hid d0
  clear h
  go_enter Tryd.func53, Tryd.ntmps53
  go_wp2_with (first
    | (go_at_call 86; refine (refNext_any _ g K _ (HS.out.then_ (below1 _ _))).mono ?_; simp only [nextR]; rintro e w1 ⟨rfl, hs1, ho1⟩; have f1 := hs1.frozen; obtain ⟨i, hb⟩ := hs1.ok; have c1 := row_cells hb; have hB := RBox.start hlt hs1 ho1; have c2 := (fun v => row_cells (hB.cellsF v)); have f2 := (fun v o => frozen_of_row _ _ o _ _ (hB.cellsF v)); have c3 := (fun X => row_cells (row_then hB.zero (below1 w1 X))); have f3 := (fun X o => frozen_of_row _ _ o _ _ (row_then hB.zero (below1 w1 X))); have lt1 : w.heap.size < w1.heap.size := lt_of_block hB.zero; have S1 := Lib.hid hB; clear hs1 ho1 hb hB))
  have cp := row_cells (putfive (S1.out.cellsF (.bool true)) (.int .i64 0) (.int .i64 0) (.string ⟨#[]⟩) (.slice none 0 0) (.slice none 0 0))
  refine bodyPost_ret (v := .agg #[.int .i64 0, .int .i64 0, .string ⟨#[]⟩, .slice none 0 0, .slice none 0 0]) (by simp [results, Tryd.results53, go_sem, cp]) rfl ?_
  obtain ⟨q1, q2, q3⟩ := S1.out.failed
  exact ⟨zeroO, none, rfl, q1, q2, q3, rvrel_deep (by omega) HD.out _⟩
set_option maxHeartbeats 4000000 in
theorem rd_bool (R1 : List Int) : RVAt (9 :: R1) := by
  intro w g K deep d0 d1 h
  have hlt := h.lt
  have hB := h.isB
  have HS := Lib.hid h
  clear h
  rcases R1 with _ | ⟨y, r⟩
  · go_enter Tryd.func53, Tryd.ntmps53
    go_wp2_with (first
      | (go_at_call 86; refine (refNext_any _ g K _ (HS.out.then_ (below1 _ _))).mono ?_; simp only [nextR]; rintro e w1 ⟨rfl, hs1, ho1⟩; have f1 := hs1.frozen; obtain ⟨i, hb⟩ := hs1.ok; have c1 := row_cells hb; have hB := RBox.start hlt hs1 ho1; have c2 := (fun v => row_cells (hB.cellsF v)); have f2 := (fun v o => frozen_of_row _ _ o _ _ (hB.cellsF v)); have c3 := (fun X => row_cells (row_then hB.zero (below1 w1 X))); have f3 := (fun X o => frozen_of_row _ _ o _ _ (row_then hB.zero (below1 w1 X))); have lt1 : w.heap.size < w1.heap.size := lt_of_block hB.zero; have S1 := Lib.hid hB; clear hs1 ho1 hb hB)
      | (go_at_call 86; refine (refNext_any _ g K _ (S1.out.src.then_ (below1 _ _))).mono ?_; simp only [nextR]; rintro e w2 ⟨rfl, hs2, ho2⟩; have r2 := keep_row ho2 (heap_alloc_new w1 (.cells #[.int .i64 9, .int .i64 0, .string ⟨#[]⟩, .slice none 0 0, .slice none 0 0] 25)) (by simp; omega); have z2 := keep_row ho2 (row_then S1.out.zero (below1 w1 (.cells #[.int .i64 9, .int .i64 0, .string ⟨#[]⟩, .slice none 0 0, .slice none 0 0] 25))) (by simp; omega); have cb := row_cells r2; have fb := (fun o => frozen_of_row _ _ o _ _ r2); have cb2 : ∀ v o, (w2.setCell ⟨w1.heap.size, 1, none⟩ v).cell? ⟨w1.heap.size, o, none⟩ = (#[.int .i64 9, v, .string ⟨#[]⟩, .slice none 0 0, .slice none 0 0] : Array Value)[o]? := (fun v => row_cells (by rw [heap_setCell_same _ _ _ _ _ _ r2]; rfl)); have cz := (fun v => row_cells ((heap_setCell_other w2 ⟨w1.heap.size, 1, none⟩ w.heap.size v (by simp; omega)).trans z2)); have fz := (fun v o => frozen_of_row _ _ o _ _ ((heap_setCell_other w2 ⟨w1.heap.size, 1, none⟩ w.heap.size v (by simp; omega)).trans z2)); have S2 := Lib.hid (And.intro hs2 (And.intro ho2 (And.intro r2 z2))); clear hs2 ho2 r2 z2 c1 f1 c2 f2 c3 f3))
    have hzr := (heap_setCell_other w2 ⟨w1.heap.size, 1, none⟩ w.heap.size (.int .i64 0) (by simp; omega)).trans S2.out.2.2.2
    have cp := row_cells (putfive hzr (.int .i64 9) (.int .i64 0) (.string ⟨#[]⟩) (.slice none 0 0) (.slice none 0 0))
    refine bodyPost_ret (v := .agg #[.int .i64 9, .int .i64 0, .string ⟨#[]⟩, .slice none 0 0, .slice none 0 0]) (by simp [results, Tryd.results53, go_sem, cp]) rfl ?_
    obtain ⟨q1, q2, q3, q4⟩ := S1.out.done (b1 := w1.heap.size) (t := (.mk 9 0 ⟨#[]⟩ none 0 [] none 0 [])) (R := 9 :: []) (deep := deep) rfl ((Only.of_below (below1 _ _)).trans S2.out.2.1) S2.out.1 (plain_own _ _ (by unfold okInt; omega) (by unfold okInt; omega) (by simp [okLen, ByteArray.size])) (((Only.refl [w.heap.size, w1.heap.size] w2).setCell (p := ⟨w1.heap.size, 1, none⟩) (.inl (by simp)) (.int .i64 0)).trans ((only_put5 _ w.heap.size (.int .i64 9) (.int .i64 0) (.string ⟨#[]⟩) (.slice none 0 0) (.slice none 0 0)).sub (by simp))) (rvrel_short rfl)
    exact ⟨(.mk 9 0 ⟨#[]⟩ none 0 [] none 0 []), none, rfl, q1, q2, q3, q4⟩
  · obtain ⟨y0, y1⟩ := hB y (by simp)
    have hyw : y % 256 = y := by omega
    clear hB
    go_enter Tryd.func53, Tryd.ntmps53
    go_wp2_with (first
      | (go_at_call 86; refine (refNext_any _ g K _ (HS.out.then_ (below1 _ _))).mono ?_; simp only [nextR]; rintro e w1 ⟨rfl, hs1, ho1⟩; have f1 := hs1.frozen; obtain ⟨i, hb⟩ := hs1.ok; have c1 := row_cells hb; have hB := RBox.start hlt hs1 ho1; have c2 := (fun v => row_cells (hB.cellsF v)); have f2 := (fun v o => frozen_of_row _ _ o _ _ (hB.cellsF v)); have c3 := (fun X => row_cells (row_then hB.zero (below1 w1 X))); have f3 := (fun X o => frozen_of_row _ _ o _ _ (row_then hB.zero (below1 w1 X))); have lt1 : w.heap.size < w1.heap.size := lt_of_block hB.zero; have S1 := Lib.hid hB; clear hs1 ho1 hb hB)
      | (go_at_call 86; refine (refNext_any _ g K _ (S1.out.src.then_ (below1 _ _))).mono ?_; simp only [nextR]; rintro e w2 ⟨rfl, hs2, ho2⟩; have r2 := keep_row ho2 (heap_alloc_new w1 (.cells #[.int .i64 9, .int .i64 0, .string ⟨#[]⟩, .slice none 0 0, .slice none 0 0] 25)) (by simp; omega); have z2 := keep_row ho2 (row_then S1.out.zero (below1 w1 (.cells #[.int .i64 9, .int .i64 0, .string ⟨#[]⟩, .slice none 0 0, .slice none 0 0] 25))) (by simp; omega); have cb := row_cells r2; have fb := (fun o => frozen_of_row _ _ o _ _ r2); have cb2 : ∀ v o, (w2.setCell ⟨w1.heap.size, 1, none⟩ v).cell? ⟨w1.heap.size, o, none⟩ = (#[.int .i64 9, v, .string ⟨#[]⟩, .slice none 0 0, .slice none 0 0] : Array Value)[o]? := (fun v => row_cells (by rw [heap_setCell_same _ _ _ _ _ _ r2]; rfl)); have cz := (fun v => row_cells ((heap_setCell_other w2 ⟨w1.heap.size, 1, none⟩ w.heap.size v (by simp; omega)).trans z2)); have fz := (fun v o => frozen_of_row _ _ o _ _ ((heap_setCell_other w2 ⟨w1.heap.size, 1, none⟩ w.heap.size v (by simp; omega)).trans z2)); have S2 := Lib.hid (And.intro hs2 (And.intro ho2 (And.intro r2 z2))); clear hs2 ho2 r2 z2 c1 f1 c2 f2 c3 f3))
    have hzr := (heap_setCell_other w2 ⟨w1.heap.size, 1, none⟩ w.heap.size (.int .i64 y) (by simp; omega)).trans S2.out.2.2.2
    have cp := row_cells (putfive hzr (.int .i64 9) (.int .i64 y) (.string ⟨#[]⟩) (.slice none 0 0) (.slice none 0 0))
    refine bodyPost_ret (v := .agg #[.int .i64 9, .int .i64 y, .string ⟨#[]⟩, .slice none 0 0, .slice none 0 0]) (by simp [results, Tryd.results53, go_sem, cp]) rfl ?_
    obtain ⟨q1, q2, q3, q4⟩ := S1.out.done (b1 := w1.heap.size) (t := (.mk 9 y ⟨#[]⟩ none 0 [] none 0 [])) (R := 9 :: (y :: r)) (deep := deep) rfl ((Only.of_below (below1 _ _)).trans S2.out.2.1) S2.out.1 (plain_own _ _ (by unfold okInt; omega) (by unfold okInt; omega) (by simp [okLen, ByteArray.size])) (((Only.refl [w.heap.size, w1.heap.size] w2).setCell (p := ⟨w1.heap.size, 1, none⟩) (.inl (by simp)) (.int .i64 y)).trans ((only_put5 _ w.heap.size (.int .i64 9) (.int .i64 y) (.string ⟨#[]⟩) (.slice none 0 0) (.slice none 0 0)).sub (by simp))) (rvrel_ok (vrel_bool (R1 := y :: r)) _)
    exact ⟨(.mk 9 y ⟨#[]⟩ none 0 [] none 0 []), some r, rfl, q1, q2, q3, q4⟩
set_option maxHeartbeats 4000000 in
theorem rd_text4 (R1 : List Int) : RVAt (4 :: R1) := by
  intro w g K deep d0 d1 h
  have hlt := h.lt
  have hroom := h.room
  have HS := Lib.hid h
  clear h
  go_enter Tryd.func53, Tryd.ntmps53
  go_wp2_with (first
    | (go_at_call 86; refine (refNext_any _ g K _ (HS.out.then_ (below1 _ _))).mono ?_; simp only [nextR]; rintro e w1 ⟨rfl, hs1, ho1⟩; have f1 := hs1.frozen; obtain ⟨i, hb⟩ := hs1.ok; have c1 := row_cells hb; have hB := RBox.start hlt hs1 ho1; have c2 := (fun v => row_cells (hB.cellsF v)); have f2 := (fun v o => frozen_of_row _ _ o _ _ (hB.cellsF v)); have c3 := (fun X => row_cells (row_then hB.zero (below1 w1 X))); have f3 := (fun X o => frozen_of_row _ _ o _ _ (row_then hB.zero (below1 w1 X))); have lt1 : w.heap.size < w1.heap.size := lt_of_block hB.zero; have S1 := Lib.hid hB; clear hs1 ho1 hb hB)
    | (go_at_call 87; refine (rdText_any _ g K _ (S1.out.src.then_ (below1 _ _))).mono ?_; rintro e w2 ⟨s, o, rfl, hs2, ho2, hr⟩; have HR := Lib.hid hr; clear hr; have r2 := keep_row ho2 (heap_alloc_new w1 (.cells #[.int .i64 4, .int .i64 0, .string ⟨#[]⟩, .slice none 0 0, .slice none 0 0] 25)) (by simp; omega); have z2 := keep_row ho2 (row_then S1.out.zero (below1 w1 (.cells #[.int .i64 4, .int .i64 0, .string ⟨#[]⟩, .slice none 0 0, .slice none 0 0] 25))) (by simp; omega); have cb := row_cells r2; have fb := (fun o => frozen_of_row _ _ o _ _ r2); have cb2 : ∀ v o, (w2.setCell ⟨w1.heap.size, 2, none⟩ v).cell? ⟨w1.heap.size, o, none⟩ = (#[.int .i64 4, .int .i64 0, v, .slice none 0 0, .slice none 0 0] : Array Value)[o]? := (fun v => row_cells (by rw [heap_setCell_same _ _ _ _ _ _ r2]; rfl)); have cz := (fun v => row_cells ((heap_setCell_other w2 ⟨w1.heap.size, 2, none⟩ w.heap.size v (by simp; omega)).trans z2)); have fz := (fun v o => frozen_of_row _ _ o _ _ ((heap_setCell_other w2 ⟨w1.heap.size, 2, none⟩ w.heap.size v (by simp; omega)).trans z2)); have S2 := Lib.hid (And.intro hs2 (And.intro ho2 (And.intro r2 z2))); clear hs2 ho2 r2 z2 c1 f1 c2 f2 c3 f3))
  have HRS := Lib.hid (show okLen s.size by rcases HR.out with ⟨R', -, hr⟩ | ⟨-, hr, -⟩; (have := hr.2.2.2; simp at hroom; unfold okLen; omega); (simp at hroom; unfold okLen; omega))
  have hzr := (heap_setCell_other w2 ⟨w1.heap.size, 2, none⟩ w.heap.size (.string s) (by simp; omega)).trans S2.out.2.2.2
  have cp := row_cells (putfive hzr (.int .i64 4) (.int .i64 0) (.string s) (.slice none 0 0) (.slice none 0 0))
  refine bodyPost_ret (v := .agg #[.int .i64 4, .int .i64 0, .string s, .slice none 0 0, .slice none 0 0]) (by simp [results, Tryd.results53, go_sem, cp]) rfl ?_
  obtain ⟨q1, q2, q3, q4⟩ := S1.out.done (b1 := w1.heap.size) (t := (.mk 4 0 s none 0 [] none 0 [])) (R := 4 :: R1) (deep := deep) rfl ((Only.of_below (below1 _ _)).trans S2.out.2.1) S2.out.1 (plain_own _ _ (by unfold okInt; omega) (by unfold okInt; omega) (HRS.out)) (((Only.refl [w.heap.size, w1.heap.size] w2).setCell (p := ⟨w1.heap.size, 2, none⟩) (.inl (by simp)) (.string s)).trans ((only_put5 _ w.heap.size (.int .i64 4) (.int .i64 0) (.string s) (.slice none 0 0) (.slice none 0 0)).sub (by simp))) (by rcases HR.out with ⟨R', rfl, hr⟩ | ⟨rfl, -, R', hr⟩; exact rvrel_ok (vrel_text (by omega) hr) _; exact rvrel_bad (vrel_text (x := 4) (by omega) hr) _ _)
  exact ⟨(.mk 4 0 s none 0 [] none 0 []), o, rfl, q1, q2, q3, q4⟩
set_option maxHeartbeats 4000000 in
theorem rd_text7 (R1 : List Int) : RVAt (7 :: R1) := by
  intro w g K deep d0 d1 h
  have hlt := h.lt
  have hroom := h.room
  have HS := Lib.hid h
  clear h
  go_enter Tryd.func53, Tryd.ntmps53
  go_wp2_with (first
    | (go_at_call 86; refine (refNext_any _ g K _ (HS.out.then_ (below1 _ _))).mono ?_; simp only [nextR]; rintro e w1 ⟨rfl, hs1, ho1⟩; have f1 := hs1.frozen; obtain ⟨i, hb⟩ := hs1.ok; have c1 := row_cells hb; have hB := RBox.start hlt hs1 ho1; have c2 := (fun v => row_cells (hB.cellsF v)); have f2 := (fun v o => frozen_of_row _ _ o _ _ (hB.cellsF v)); have c3 := (fun X => row_cells (row_then hB.zero (below1 w1 X))); have f3 := (fun X o => frozen_of_row _ _ o _ _ (row_then hB.zero (below1 w1 X))); have lt1 : w.heap.size < w1.heap.size := lt_of_block hB.zero; have S1 := Lib.hid hB; clear hs1 ho1 hb hB)
    | (go_at_call 87; refine (rdText_any _ g K _ (S1.out.src.then_ (below1 _ _))).mono ?_; rintro e w2 ⟨s, o, rfl, hs2, ho2, hr⟩; have HR := Lib.hid hr; clear hr; have r2 := keep_row ho2 (heap_alloc_new w1 (.cells #[.int .i64 7, .int .i64 0, .string ⟨#[]⟩, .slice none 0 0, .slice none 0 0] 25)) (by simp; omega); have z2 := keep_row ho2 (row_then S1.out.zero (below1 w1 (.cells #[.int .i64 7, .int .i64 0, .string ⟨#[]⟩, .slice none 0 0, .slice none 0 0] 25))) (by simp; omega); have cb := row_cells r2; have fb := (fun o => frozen_of_row _ _ o _ _ r2); have cb2 : ∀ v o, (w2.setCell ⟨w1.heap.size, 2, none⟩ v).cell? ⟨w1.heap.size, o, none⟩ = (#[.int .i64 7, .int .i64 0, v, .slice none 0 0, .slice none 0 0] : Array Value)[o]? := (fun v => row_cells (by rw [heap_setCell_same _ _ _ _ _ _ r2]; rfl)); have cz := (fun v => row_cells ((heap_setCell_other w2 ⟨w1.heap.size, 2, none⟩ w.heap.size v (by simp; omega)).trans z2)); have fz := (fun v o => frozen_of_row _ _ o _ _ ((heap_setCell_other w2 ⟨w1.heap.size, 2, none⟩ w.heap.size v (by simp; omega)).trans z2)); have S2 := Lib.hid (And.intro hs2 (And.intro ho2 (And.intro r2 z2))); clear hs2 ho2 r2 z2 c1 f1 c2 f2 c3 f3))
  have HRS := Lib.hid (show okLen s.size by rcases HR.out with ⟨R', -, hr⟩ | ⟨-, hr, -⟩; (have := hr.2.2.2; simp at hroom; unfold okLen; omega); (simp at hroom; unfold okLen; omega))
  have hzr := (heap_setCell_other w2 ⟨w1.heap.size, 2, none⟩ w.heap.size (.string s) (by simp; omega)).trans S2.out.2.2.2
  have cp := row_cells (putfive hzr (.int .i64 7) (.int .i64 0) (.string s) (.slice none 0 0) (.slice none 0 0))
  refine bodyPost_ret (v := .agg #[.int .i64 7, .int .i64 0, .string s, .slice none 0 0, .slice none 0 0]) (by simp [results, Tryd.results53, go_sem, cp]) rfl ?_
  obtain ⟨q1, q2, q3, q4⟩ := S1.out.done (b1 := w1.heap.size) (t := (.mk 7 0 s none 0 [] none 0 [])) (R := 7 :: R1) (deep := deep) rfl ((Only.of_below (below1 _ _)).trans S2.out.2.1) S2.out.1 (plain_own _ _ (by unfold okInt; omega) (by unfold okInt; omega) (HRS.out)) (((Only.refl [w.heap.size, w1.heap.size] w2).setCell (p := ⟨w1.heap.size, 2, none⟩) (.inl (by simp)) (.string s)).trans ((only_put5 _ w.heap.size (.int .i64 7) (.int .i64 0) (.string s) (.slice none 0 0) (.slice none 0 0)).sub (by simp))) (by rcases HR.out with ⟨R', rfl, hr⟩ | ⟨rfl, -, R', hr⟩; exact rvrel_ok (vrel_text (by omega) hr) _; exact rvrel_bad (vrel_text (x := 7) (by omega) hr) _ _)
  exact ⟨(.mk 7 0 s none 0 [] none 0 []), o, rfl, q1, q2, q3, q4⟩
end Go.Proofs.YtdlgngnibbaamaaDoor
namespace Go.Proofs.YtdlgngnibbaamaaDoor
open Go.RowKit
set_option maxRecDepth 100000

/-- Eight bytes as far as they are read. -/
structure NumAt (R1 : List Int) (k : Nat) (u : Int) (o : Option (List Int)) : Prop where
  low : 0 ≤ u
  high : u < 256 ^ k
  is_ : (o = some (R1.drop k) ∧ k ≤ R1.length ∧ u = valB (R1.take k)) ∨ (o = none ∧ R1.length < 8)
theorem pow_le {k : Nat} (h : k < 8) : (256 : Int) ^ k ≤ 72057594037927936 := by
  obtain rfl | rfl | rfl | rfl | rfl | rfl | rfl | rfl : k = 0 ∨ k = 1 ∨ k = 2 ∨ k = 3 ∨ k = 4 ∨ k = 5 ∨ k = 6 ∨ k = 7 := by omega
  all_goals decide
theorem NumAt.start (R1 : List Int) : NumAt R1 0 0 (some R1) := ⟨by omega, by decide, .inl ⟨rfl, by omega, rfl⟩⟩
theorem NumAt.step {R1 : List Int} {k : Nat} {u : Int} {o : Option (List Int)} (h : NumAt R1 k u o) (hk : k < 8) (hb : isB R1) : NumAt R1 (k + 1) (u * 256 + (nextR o).1) (nextR o).2 ∧ 0 ≤ (nextR o).1 ∧ (nextR o).1 ≤ 255 := by
  have hl := h.low
  have hh := h.high
  have hp : (256 : Int) ^ (k + 1) = 256 ^ k * 256 := Int.pow_succ ..
  rcases h.is_ with ⟨rfl, hle, rfl⟩ | ⟨rfl, hle⟩
  · rcases Nat.lt_or_ge k R1.length with h1 | h1
    · have hx : R1[k]? = some R1[k] := List.getElem?_eq_getElem h1
      have hxb := hb R1[k] (List.getElem_mem h1)
      have hd := List.drop_eq_getElem_cons h1
      have hs := valB_step hx
      rw [hd]
      simp only [nextR]
      exact ⟨⟨by omega, by rw [hp]; omega, .inl ⟨rfl, by omega, hs.symm⟩⟩, hxb⟩
    · rw [List.drop_eq_nil_of_le h1]
      simp only [nextR]
      exact ⟨⟨by omega, by rw [hp]; omega, .inr ⟨rfl, by omega⟩⟩, by omega, by omega⟩
  · simp only [nextR]
    exact ⟨⟨by omega, by rw [hp]; omega, .inr ⟨rfl, hle⟩⟩, by omega, by omega⟩
theorem NumAt.done {R1 : List Int} {u : Int} {o : Option (List Int)} {x : Int} {deep : Int} (h : NumAt R1 8 u o) (hx : x = 3 ∨ x = 10) (hb : isB R1) : RVRel (x :: R1) deep (.mk x (u - 9223372036854775808) ⟨#[]⟩ [] []) o := by
  rcases h.is_ with ⟨rfl, hle, rfl⟩ | ⟨rfl, hle⟩
  · obtain ⟨b0, b1, b2, b3, b4, b5, b6, b7, e⟩ := eight_parts (q := R1.take 8) (by rw [List.length_take]; omega)
    have hR : R1 = [b0, b1, b2, b3, b4, b5, b6, b7] ++ R1.drop 8 := by rw [← e, List.take_append_drop]
    have hb8 : isB [b0, b1, b2, b3, b4, b5, b6, b7] := by rw [← e]; exact fun y hy => hb y (List.mem_of_mem_take hy)
    rw [e]
    exact rvrel_ok (vrel_num hx (num_rel hb8 hR)) _
  · exact rvrel_bad (vrel_num hx (show NumRelR R1 0 false [] from ⟨fun h => (by cases h), fun _ => ⟨rfl, hle⟩, by simp⟩)) _ _
theorem wrap_down {X : Int} (r0 : 0 ≤ X) (r1 : X < 18446744073709551616) : IntKind.i64.wrap (IntKind.u64.wrap (X - 9223372036854775808)) = X - 9223372036854775808 := by
  have e1 : IntKind.u64.wrap (X - 9223372036854775808) = (X - 9223372036854775808) % 18446744073709551616 := rfl
  have e3 : ∀ n : Int, IntKind.i64.wrap n = (n + 9223372036854775808) % 18446744073709551616 - 9223372036854775808 := fun n => by simp [IntKind.wrap, IntKind.bits, IntKind.signed]; omega
  rw [e1]
  by_cases h : X < 9223372036854775808
  · have e2 : (X - 9223372036854775808) % 18446744073709551616 = X + 9223372036854775808 := by omega
    rw [e2, e3]; omega
  · have e2 : (X - 9223372036854775808) % 18446744073709551616 = X - 9223372036854775808 := by omega
    rw [e2, e3]; omega
set_option maxHeartbeats 8000000 in
theorem rd_num3 (R1 : List Int) : RVAt (3 :: R1) := by
  intro w g K deep d0 d1 h
  have hlt := h.lt
  have HBR := Lib.hid (show isB R1 from fun b hb => h.isB b (by simp [hb]))
  have HS := Lib.hid h
  clear h
  go_enter Tryd.func53, Tryd.ntmps53
  go_wp2_with (first
    | (go_at_call 86; refine (refNext_any _ g K _ (HS.out.then_ (below1 _ _))).mono ?_; simp only [nextR]; rintro e w1 ⟨rfl, hs1, ho1⟩; have f1 := hs1.frozen; obtain ⟨i, hb⟩ := hs1.ok; have c1 := row_cells hb; have hB := RBox.start hlt hs1 ho1; have c2 := (fun v => row_cells (hB.cellsF v)); have f2 := (fun v o => frozen_of_row _ _ o _ _ (hB.cellsF v)); have c3 := (fun X => row_cells (row_then hB.zero (below1 w1 X))); have f3 := (fun X o => frozen_of_row _ _ o _ _ (row_then hB.zero (below1 w1 X))); have lt1 : w.heap.size < w1.heap.size := lt_of_block hB.zero; have S1 := Lib.hid hB; clear hs1 ho1 hb hB))
  go_loopw [7, 8] (fun u i wr => ∃ (k : Nat) (n : Int) (o : Option (List Int)), k ≤ 8 ∧ i = .int .i64 k ∧ u = .int .u64 n ∧ NumAt R1 k n o ∧ Rdr wr g K o ∧ Only [g] (w1.alloc (.cells #[.int .i64 3, .int .i64 0, .string ⟨#[]⟩, .slice none 0 0, .slice none 0 0] 25)) wr) (fun _ i _ => 8 - (intOf i).toNat)
  case atStart => exact ⟨0, 0, some R1, by omega, rfl, rfl, NumAt.start R1, S1.out.src.then_ (below1 _ _), Only.refl _ _⟩
  case round =>
    obtain ⟨k, u, o, hk, rfl, rfl, hn, hs2, ho2⟩ := hrel
    by_cases hk8 : k < 8
    · obtain ⟨hn2, n0, n1⟩ := hn.step hk8 HBR.out
      have u0 := hn.low
      have u1 : u < 72057594037927936 := by have := hn.high; have := pow_le hk8; omega
      have HC := Lib.hid (refNext_any wr g K o hs2)
      have HN2 := Lib.hid (And.intro hn2 ho2)
      generalize (nextR o).1 = x at *
      generalize (nextR o).2 = o2 at *
      clear hn2 hs2 ho2 hn
      have hxw : x % 18446744073709551616 = x := by omega
      go_wp2_with (first
        | (go_at_call 86; refine HC.out.mono ?_; rintro e w2 ⟨rfl, hs3, ho3⟩; have S3 := Lib.hid (And.intro hs3 ho3); clear hs3 ho3))
      go_roundw
      case rel => exact ⟨k + 1, _, o2, by omega, by go_num, rfl, HN2.out.1, S3.out.1, HN2.out.2.trans S3.out.2⟩
      case measure => simp [intOf]; omega
    · have hk8' : k = 8 := by omega
      subst hk8'
      have u0 := hn.low
      have u1 : u < 18446744073709551616 := by have := hn.high; have hp8 : (256 : Int) ^ 8 = 18446744073709551616 := (by decide); rw [hp8] at this; exact this
      have hw := wrap_down u0 u1
      have UB := Lib.hid (And.intro u0 u1)
      have HN := Lib.hid hn
      obtain ⟨w2, rfl⟩ : ∃ w2, w2 = wr := ⟨_, rfl⟩
      clear hn
      have r2 := keep_row ho2 (heap_alloc_new w1 (.cells #[.int .i64 3, .int .i64 0, .string ⟨#[]⟩, .slice none 0 0, .slice none 0 0] 25)) (by simp; omega)
      have z2 := keep_row ho2 (row_then S1.out.zero (below1 w1 (.cells #[.int .i64 3, .int .i64 0, .string ⟨#[]⟩, .slice none 0 0, .slice none 0 0] 25))) (by simp; omega)
      have cb := row_cells r2
      have fb := (fun o => frozen_of_row _ _ o _ _ r2)
      have cb2 : ∀ v o, (w2.setCell ⟨w1.heap.size, 1, none⟩ v).cell? ⟨w1.heap.size, o, none⟩ = (#[.int .i64 3, v, .string ⟨#[]⟩, .slice none 0 0, .slice none 0 0] : Array Value)[o]? := (fun v => row_cells (by rw [heap_setCell_same _ _ _ _ _ _ r2]; rfl))
      have cz := (fun v => row_cells ((heap_setCell_other w2 ⟨w1.heap.size, 1, none⟩ w.heap.size v (by simp; omega)).trans z2))
      have fz := (fun v o => frozen_of_row _ _ o _ _ ((heap_setCell_other w2 ⟨w1.heap.size, 1, none⟩ w.heap.size v (by simp; omega)).trans z2))
      have S2 := Lib.hid (And.intro hs2 (And.intro ho2 (And.intro r2 z2)))
      clear hs2 ho2 r2 z2
      go_wp2_with fail
      have hzr := (heap_setCell_other w2 ⟨w1.heap.size, 1, none⟩ w.heap.size (.int .i64 (u - 9223372036854775808)) (by simp; omega)).trans S2.out.2.2.2
      have cp := row_cells (putfive hzr (.int .i64 3) (.int .i64 (u - 9223372036854775808)) (.string ⟨#[]⟩) (.slice none 0 0) (.slice none 0 0))
      refine bodyPost_ret (v := .agg #[.int .i64 3, .int .i64 (u - 9223372036854775808), .string ⟨#[]⟩, .slice none 0 0, .slice none 0 0]) (by simp [results, Tryd.results53, go_sem, cp]) rfl ?_
      obtain ⟨q1, q2, q3, q4⟩ := S1.out.done (b1 := w1.heap.size) (t := (.mk 3 (u - 9223372036854775808) ⟨#[]⟩ none 0 [] none 0 [])) (R := 3 :: R1) (deep := deep) rfl ((Only.of_below (below1 _ _)).trans S2.out.2.1) S2.out.1 (plain_own _ _ (by unfold okInt; omega) (by unfold okInt; have := UB.out; omega) (by simp [okLen, ByteArray.size])) (((Only.refl [w.heap.size, w1.heap.size] w2).setCell (p := ⟨w1.heap.size, 1, none⟩) (.inl (by simp)) (.int .i64 (u - 9223372036854775808))).trans ((only_put5 _ w.heap.size (.int .i64 3) (.int .i64 (u - 9223372036854775808)) (.string ⟨#[]⟩) (.slice none 0 0) (.slice none 0 0)).sub (by simp))) (HN.out.done (by omega) HBR.out)
      exact ⟨(.mk 3 (u - 9223372036854775808) ⟨#[]⟩ none 0 [] none 0 []), o, rfl, q1, q2, q3, q4⟩
set_option maxHeartbeats 8000000 in
theorem rd_num10 (R1 : List Int) : RVAt (10 :: R1) := by
  intro w g K deep d0 d1 h
  have hlt := h.lt
  have HBR := Lib.hid (show isB R1 from fun b hb => h.isB b (by simp [hb]))
  have HS := Lib.hid h
  clear h
  go_enter Tryd.func53, Tryd.ntmps53
  go_wp2_with (first
    | (go_at_call 86; refine (refNext_any _ g K _ (HS.out.then_ (below1 _ _))).mono ?_; simp only [nextR]; rintro e w1 ⟨rfl, hs1, ho1⟩; have f1 := hs1.frozen; obtain ⟨i, hb⟩ := hs1.ok; have c1 := row_cells hb; have hB := RBox.start hlt hs1 ho1; have c2 := (fun v => row_cells (hB.cellsF v)); have f2 := (fun v o => frozen_of_row _ _ o _ _ (hB.cellsF v)); have c3 := (fun X => row_cells (row_then hB.zero (below1 w1 X))); have f3 := (fun X o => frozen_of_row _ _ o _ _ (row_then hB.zero (below1 w1 X))); have lt1 : w.heap.size < w1.heap.size := lt_of_block hB.zero; have S1 := Lib.hid hB; clear hs1 ho1 hb hB))
  go_loopw [7, 8] (fun u i wr => ∃ (k : Nat) (n : Int) (o : Option (List Int)), k ≤ 8 ∧ i = .int .i64 k ∧ u = .int .u64 n ∧ NumAt R1 k n o ∧ Rdr wr g K o ∧ Only [g] (w1.alloc (.cells #[.int .i64 10, .int .i64 0, .string ⟨#[]⟩, .slice none 0 0, .slice none 0 0] 25)) wr) (fun _ i _ => 8 - (intOf i).toNat)
  case atStart => exact ⟨0, 0, some R1, by omega, rfl, rfl, NumAt.start R1, S1.out.src.then_ (below1 _ _), Only.refl _ _⟩
  case round =>
    obtain ⟨k, u, o, hk, rfl, rfl, hn, hs2, ho2⟩ := hrel
    by_cases hk8 : k < 8
    · obtain ⟨hn2, n0, n1⟩ := hn.step hk8 HBR.out
      have u0 := hn.low
      have u1 : u < 72057594037927936 := by have := hn.high; have := pow_le hk8; omega
      have HC := Lib.hid (refNext_any wr g K o hs2)
      have HN2 := Lib.hid (And.intro hn2 ho2)
      generalize (nextR o).1 = x at *
      generalize (nextR o).2 = o2 at *
      clear hn2 hs2 ho2 hn
      have hxw : x % 18446744073709551616 = x := by omega
      go_wp2_with (first
        | (go_at_call 86; refine HC.out.mono ?_; rintro e w2 ⟨rfl, hs3, ho3⟩; have S3 := Lib.hid (And.intro hs3 ho3); clear hs3 ho3))
      go_roundw
      case rel => exact ⟨k + 1, _, o2, by omega, by go_num, rfl, HN2.out.1, S3.out.1, HN2.out.2.trans S3.out.2⟩
      case measure => simp [intOf]; omega
    · have hk8' : k = 8 := by omega
      subst hk8'
      have u0 := hn.low
      have u1 : u < 18446744073709551616 := by have := hn.high; have hp8 : (256 : Int) ^ 8 = 18446744073709551616 := (by decide); rw [hp8] at this; exact this
      have hw := wrap_down u0 u1
      have UB := Lib.hid (And.intro u0 u1)
      have HN := Lib.hid hn
      obtain ⟨w2, rfl⟩ : ∃ w2, w2 = wr := ⟨_, rfl⟩
      clear hn
      have r2 := keep_row ho2 (heap_alloc_new w1 (.cells #[.int .i64 10, .int .i64 0, .string ⟨#[]⟩, .slice none 0 0, .slice none 0 0] 25)) (by simp; omega)
      have z2 := keep_row ho2 (row_then S1.out.zero (below1 w1 (.cells #[.int .i64 10, .int .i64 0, .string ⟨#[]⟩, .slice none 0 0, .slice none 0 0] 25))) (by simp; omega)
      have cb := row_cells r2
      have fb := (fun o => frozen_of_row _ _ o _ _ r2)
      have cb2 : ∀ v o, (w2.setCell ⟨w1.heap.size, 1, none⟩ v).cell? ⟨w1.heap.size, o, none⟩ = (#[.int .i64 10, v, .string ⟨#[]⟩, .slice none 0 0, .slice none 0 0] : Array Value)[o]? := (fun v => row_cells (by rw [heap_setCell_same _ _ _ _ _ _ r2]; rfl))
      have cz := (fun v => row_cells ((heap_setCell_other w2 ⟨w1.heap.size, 1, none⟩ w.heap.size v (by simp; omega)).trans z2))
      have fz := (fun v o => frozen_of_row _ _ o _ _ ((heap_setCell_other w2 ⟨w1.heap.size, 1, none⟩ w.heap.size v (by simp; omega)).trans z2))
      have S2 := Lib.hid (And.intro hs2 (And.intro ho2 (And.intro r2 z2)))
      clear hs2 ho2 r2 z2
      go_wp2_with fail
      have hzr := (heap_setCell_other w2 ⟨w1.heap.size, 1, none⟩ w.heap.size (.int .i64 (u - 9223372036854775808)) (by simp; omega)).trans S2.out.2.2.2
      have cp := row_cells (putfive hzr (.int .i64 10) (.int .i64 (u - 9223372036854775808)) (.string ⟨#[]⟩) (.slice none 0 0) (.slice none 0 0))
      refine bodyPost_ret (v := .agg #[.int .i64 10, .int .i64 (u - 9223372036854775808), .string ⟨#[]⟩, .slice none 0 0, .slice none 0 0]) (by simp [results, Tryd.results53, go_sem, cp]) rfl ?_
      obtain ⟨q1, q2, q3, q4⟩ := S1.out.done (b1 := w1.heap.size) (t := (.mk 10 (u - 9223372036854775808) ⟨#[]⟩ none 0 [] none 0 [])) (R := 10 :: R1) (deep := deep) rfl ((Only.of_below (below1 _ _)).trans S2.out.2.1) S2.out.1 (plain_own _ _ (by unfold okInt; omega) (by unfold okInt; have := UB.out; omega) (by simp [okLen, ByteArray.size])) (((Only.refl [w.heap.size, w1.heap.size] w2).setCell (p := ⟨w1.heap.size, 1, none⟩) (.inl (by simp)) (.int .i64 (u - 9223372036854775808))).trans ((only_put5 _ w.heap.size (.int .i64 10) (.int .i64 (u - 9223372036854775808)) (.string ⟨#[]⟩) (.slice none 0 0) (.slice none 0 0)).sub (by simp))) (HN.out.done (by omega) HBR.out)
      exact ⟨(.mk 10 (u - 9223372036854775808) ⟨#[]⟩ none 0 [] none 0 []), o, rfl, q1, q2, q3, q4⟩
end Go.Proofs.YtdlgngnibbaamaaDoor
namespace Go.Proofs.YtdlgngnibbaamaaDoor
open Go.RowKit
set_option maxRecDepth 100000

/-- Twelve bytes as far as they are read. -/
structure IdAt (R1 : List Int) (k : Nat) (acc : List Int) (o : Option (List Int)) : Prop where
  len : acc.length = k
  byte : isB acc
  is_ : (o = some (R1.drop k) ∧ k ≤ R1.length ∧ acc = R1.take k) ∨ (o = none ∧ R1.length < 12)
theorem IdAt.start (R1 : List Int) : IdAt R1 0 [] (some R1) := ⟨rfl, isB.nil, .inl ⟨rfl, by omega, rfl⟩⟩
theorem IdAt.step {R1 acc : List Int} {k : Nat} {o : Option (List Int)} (h : IdAt R1 k acc o) (hk : k < 12) (hb : isB R1) : IdAt R1 (k + 1) (acc ++ [(nextR o).1]) (nextR o).2 ∧ 0 ≤ (nextR o).1 ∧ (nextR o).1 ≤ 255 := by
  have hl := h.len
  have hy := h.byte
  rcases h.is_ with ⟨rfl, hle, rfl⟩ | ⟨rfl, hle⟩
  · rcases Nat.lt_or_ge k R1.length with h1 | h1
    · have hx : R1[k]? = some R1[k] := List.getElem?_eq_getElem h1
      have hxb := hb R1[k] (List.getElem_mem h1)
      have hd := List.drop_eq_getElem_cons h1
      rw [hd]
      simp only [nextR]
      exact ⟨⟨by simp; omega, hy.append (isB.cons hxb isB.nil), .inl ⟨rfl, by omega, by rw [List.take_add_one, hx]; rfl⟩⟩, hxb⟩
    · rw [List.drop_eq_nil_of_le h1]
      simp only [nextR]
      exact ⟨⟨by simp at *; omega, hy.append (isB.cons (by omega) isB.nil), .inr ⟨rfl, by omega⟩⟩, by omega, by omega⟩
  · simp only [nextR]
    exact ⟨⟨by simp; omega, hy.append (isB.cons (by omega) isB.nil), .inr ⟨rfl, hle⟩⟩, by omega, by omega⟩
theorem IdAt.done {R1 acc : List Int} {o : Option (List Int)} {deep : Int} (h : IdAt R1 12 acc o) : RVRel (8 :: R1) deep (.mk 8 0 (strOfNums acc) [] []) o := by
  rcases h.is_ with ⟨rfl, hle, e⟩ | ⟨rfl, hle⟩
  · refine rvrel_ok (vrel_id (show IdRel R1 (strOfNums acc) true (R1.drop 12) from ⟨fun _ => ⟨by rw [strOfNums_size]; exact h.len, ?_⟩, fun h => (by cases h), by simp⟩)) _
    rw [bsI_str h.byte, e, List.take_append_drop]
  · exact rvrel_bad (vrel_id (show IdRel R1 ⟨#[]⟩ false [] from ⟨fun h => (by cases h), fun _ => ⟨rfl, hle⟩, by simp⟩)) _ _
structure IdMem (w0 wr : World) (B g : Nat) (K : Ctx) (u : Value) (acc : List Int) (o : Option (List Int)) : Prop where
  own : OwnB wr B u acc
  src : Rdr wr g K o
  only : Only [g] w0 wr
  lt : g < B
  base : B = w0.heap.size
theorem IdMem.step {w0 wr w1 w2 : World} {B g : Nat} {K : Ctx} {u u2 : Value} {acc : List Int} {x : Int} {o o1 : Option (List Int)} (h : IdMem w0 wr B g K u acc o) (ho : Only [g] wr w1) (hs : Rdr w1 g K o1) (hg : Grew B w1 w2 u u2 (acc ++ [x])) : IdMem w0 w2 B g K u2 (acc ++ [x]) o1 := by
  have hb : ∀ b ∈ u.ownBlock.toList, B ≤ b := fun b hb => (h.own.block b (by simpa using hb)).1
  have hB := h.base
  refine ⟨hg.own, hs.only (only_grow hg.grow) (fun b hb' => by have := hb b hb'; have := h.lt; omega), (h.only.trans ho).then_ (only_grow hg.grow) (fun b hb' => .inr (by have := hb b hb'; omega)), h.lt, hB⟩
theorem IdMem.next {w0 wr w1 : World} {B g : Nat} {K : Ctx} {u : Value} {acc : List Int} {o : Option (List Int)} (h : IdMem w0 wr B g K u acc o) (ho : Only [g] wr w1) : OwnB w1 B u acc ∧ B ≤ w1.heap.size := by
  have := h.lt
  have := h.base
  have := h.only.size
  have := ho.size
  exact ⟨h.own.only ho (by simp; omega), by omega⟩
theorem IdMem.str {w0 wr : World} {B g : Nat} {K : Ctx} {acc : List Int} {a : Option Addr} {c n : Nat} {o : Option (List Int)} (h : IdMem w0 wr B g K (.slice a n c) acc o) : (convert 28 9 (.slice a n c)).run Tryd.prog wr = .ok (.string (strOfNums acc)) wr := by
  obtain ⟨a', c', e, h1, h2, -, -⟩ := h.own.shape
  injection e with e1 e2 e3
  subst e1
  exact run_str wr a n c acc e2.symm h1 (fun h => (h2 h).2)
set_option maxHeartbeats 8000000 in
theorem rd_id (R1 : List Int) : RVAt (8 :: R1) := by
  intro w g K deep d0 d1 h
  have hlt := h.lt
  have HBR := Lib.hid (show isB R1 from fun b hb => h.isB b (by simp [hb]))
  have HS := Lib.hid h
  clear h
  go_enter Tryd.func53, Tryd.ntmps53
  go_wp2_with (first
    | (go_at_call 86; refine (refNext_any _ g K _ (HS.out.then_ (below1 _ _))).mono ?_; simp only [nextR]; rintro e w1 ⟨rfl, hs1, ho1⟩; have f1 := hs1.frozen; obtain ⟨i, hb⟩ := hs1.ok; have c1 := row_cells hb; have hB := RBox.start hlt hs1 ho1; have c2 := (fun v => row_cells (hB.cellsF v)); have f2 := (fun v o => frozen_of_row _ _ o _ _ (hB.cellsF v)); have c3 := (fun X => row_cells (row_then hB.zero (below1 w1 X))); have f3 := (fun X o => frozen_of_row _ _ o _ _ (row_then hB.zero (below1 w1 X))); have lt1 : w.heap.size < w1.heap.size := lt_of_block hB.zero; have S1 := Lib.hid hB; clear hs1 ho1 hb hB))
  go_loopw [9, 10] (fun u i wr => ∃ (k : Nat) (acc : List Int) (o : Option (List Int)), k ≤ 12 ∧ i = .int .i64 k ∧ IdAt R1 k acc o ∧ IdMem (w1.alloc (.cells #[.int .i64 8, .int .i64 0, .string ⟨#[]⟩, .slice none 0 0, .slice none 0 0] 25)) wr (w1.heap.size + 1) g K u acc o) (fun _ i _ => 12 - (intOf i).toNat)
  case atStart => exact ⟨0, [], some R1, by omega, rfl, IdAt.start R1, OwnB.nil _ _, S1.out.src.then_ (below1 _ _), Only.refl _ _, by omega, (World.size_alloc _ _).symm⟩
  case round =>
    obtain ⟨k, acc, o, hk, rfl, hn, hm⟩ := hrel
    have hlen : acc.length ≤ 12 := by have := hn.len; omega
    obtain ⟨ua, uc, rfl, -, -, -, -⟩ := hm.own.shape
    by_cases hk8 : k < 12
    · obtain ⟨hn2, n0, n1⟩ := hn.step hk8 HBR.out
      have HC := Lib.hid (refNext_any wr g K o hm.src)
      have HM := Lib.hid hm
      have HN2 := Lib.hid hn2
      generalize (nextR o).1 = x at *
      generalize (nextR o).2 = o2 at *
      clear hn2 hm hn
      have hxw : x % 256 = x := by omega
      go_wp2_with (first
        | (go_at_call 86; refine HC.out.mono ?_; rintro e w2 ⟨rfl, hs3, ho3⟩; have oo := HM.out.next ho3; have S3 := Lib.hid (And.intro hs3 (And.intro ho3 oo)); clear hs3 ho3 oo)
        | (at_builtin; refine apL _ rfl (.tmp 83) (.tmp 86) rfl (w1.heap.size + 1) _ _ rfl S3.out.2.2.1 [x] _ 1 1 rfl rfl rfl rfl (by omega) S3.out.2.2.2 ?_; intro v3 w3 hg3; have G3 := Lib.hid (HM.out.step S3.out.2.1 S3.out.1 hg3); clear hg3))
      go_roundw
      case rel => exact ⟨k + 1, acc ++ [x], o2, by omega, by go_num, HN2.out, G3.out⟩
      case measure => simp [intOf]; omega
    · have hk8' : k = 12 := by omega
      subst hk8'
      have HN := Lib.hid hn
      have kc := hm.str
      have hs2 := hm.src
      have ho2 := hm.only
      obtain ⟨w2, rfl⟩ : ∃ w2, w2 = wr := ⟨_, rfl⟩
      clear hn hm
      have r2 := keep_row ho2 (heap_alloc_new w1 (.cells #[.int .i64 8, .int .i64 0, .string ⟨#[]⟩, .slice none 0 0, .slice none 0 0] 25)) (by simp; omega)
      have z2 := keep_row ho2 (row_then S1.out.zero (below1 w1 (.cells #[.int .i64 8, .int .i64 0, .string ⟨#[]⟩, .slice none 0 0, .slice none 0 0] 25))) (by simp; omega)
      have cb := row_cells r2
      have fb := (fun o => frozen_of_row _ _ o _ _ r2)
      have cb2 : ∀ v o, (w2.setCell ⟨w1.heap.size, 2, none⟩ v).cell? ⟨w1.heap.size, o, none⟩ = (#[.int .i64 8, .int .i64 0, v, .slice none 0 0, .slice none 0 0] : Array Value)[o]? := (fun v => row_cells (by rw [heap_setCell_same _ _ _ _ _ _ r2]; rfl))
      have cz := (fun v => row_cells ((heap_setCell_other w2 ⟨w1.heap.size, 2, none⟩ w.heap.size v (by simp; omega)).trans z2))
      have fz := (fun v o => frozen_of_row _ _ o _ _ ((heap_setCell_other w2 ⟨w1.heap.size, 2, none⟩ w.heap.size v (by simp; omega)).trans z2))
      have S2 := Lib.hid (And.intro hs2 (And.intro ho2 (And.intro r2 z2)))
      clear hs2 ho2 r2 z2
      go_wp2_with fail
      have hzr := (heap_setCell_other w2 ⟨w1.heap.size, 2, none⟩ w.heap.size (.string (strOfNums acc)) (by simp; omega)).trans S2.out.2.2.2
      have cp := row_cells (putfive hzr (.int .i64 8) (.int .i64 0) (.string (strOfNums acc)) (.slice none 0 0) (.slice none 0 0))
      refine bodyPost_ret (v := .agg #[.int .i64 8, .int .i64 0, .string (strOfNums acc), .slice none 0 0, .slice none 0 0]) (by simp [results, Tryd.results53, go_sem, cp]) rfl ?_
      obtain ⟨q1, q2, q3, q4⟩ := S1.out.done (b1 := w1.heap.size) (t := (.mk 8 0 (strOfNums acc) none 0 [] none 0 [])) (R := 8 :: R1) (deep := deep) rfl ((Only.of_below (below1 _ _)).trans S2.out.2.1) S2.out.1 (plain_own _ _ (by unfold okInt; omega) (by unfold okInt; omega) (by have := HN.out.len; unfold okLen; rw [strOfNums_size]; omega)) (((Only.refl [w.heap.size, w1.heap.size] w2).setCell (p := ⟨w1.heap.size, 2, none⟩) (.inl (by simp)) (.string (strOfNums acc))).trans ((only_put5 _ w.heap.size (.int .i64 8) (.int .i64 0) (.string (strOfNums acc)) (.slice none 0 0) (.slice none 0 0)).sub (by simp))) (HN.out.done)
      exact ⟨(.mk 8 0 (strOfNums acc) none 0 [] none 0 []), o, rfl, q1, q2, q3, q4⟩
end Go.Proofs.YtdlgngnibbaamaaDoor
namespace Go.Proofs.YtdlgngnibbaamaaDoor
open Go.RowKit
set_option maxRecDepth 100000

theorem moreR_true {o : Option (List Int)} (h : (moreR o).1 = true) : ∃ R2, o = some (1 :: R2) ∧ (moreR o).2 = some R2 := by
  rcases o with _ | _ | ⟨x, r⟩
  · cases h
  · cases h
  · unfold moreR at h ⊢
    by_cases h0 : x = 0
    · simp [h0] at h
    · by_cases h1 : x = 1
      · subst h1; exact ⟨r, rfl, by simp⟩
      · simp [h0, h1] at h
theorem moreR_false {o : Option (List Int)} (h : (moreR o).1 = false) : (∃ R2, o = some (0 :: R2) ∧ (moreR o).2 = some R2) ∨ ((moreR o).2 = none ∧ (o = none ∨ o = some [] ∨ ∃ y r, o = some (y :: r) ∧ y ≠ 0 ∧ y ≠ 1)) := by
  rcases o with _ | _ | ⟨x, r⟩
  · exact .inr ⟨rfl, .inl rfl⟩
  · exact .inr ⟨rfl, .inr (.inl rfl)⟩
  · unfold moreR at h ⊢
    by_cases h0 : x = 0
    · subst h0; exact .inl ⟨r, rfl, by simp⟩
    · by_cases h1 : x = 1
      · simp [h1] at h
      · exact .inr ⟨by simp [h0, h1], .inr (.inr ⟨x, r, rfl, h0, h1⟩)⟩
theorem RPInv.end_ {R : List Int} {deep : Int} {acc : List V} {o : Option (List Int)} (h : RPInv R (deep + 1) acc o) (hm : (moreR o).1 = false) : RVRel (6 :: R) deep (.mk 6 0 ⟨#[]⟩ acc []) (moreR o).2 := by
  rcases moreR_false hm with ⟨R2, rfl, e⟩ | ⟨e, hk⟩
  · rw [e]; exact h.done
  · rw [e]; exact h.fail hk _
theorem RDInv.end_ {R : List Int} {deep : Int} {acc : List (ByteArray × V)} {o : Option (List Int)} (h : RDInv R (deep + 1) acc o) (hm : (moreR o).1 = false) : RVRel (5 :: R) deep (.mk 5 0 ⟨#[]⟩ [] acc) (moreR o).2 := by
  rcases moreR_false hm with ⟨R2, rfl, e⟩ | ⟨e, hk⟩
  · rw [e]; exact h.done
  · rw [e]; exact h.fail hk _
/-- A list as far as it is read: the box of the value at b, what the elements own behind it. -/
structure LsAt (w0 wr : World) (z b g : Nat) (K : Ctx) (R : List Int) (deep : Int) (a : Option Addr) (c : Nat) (ts : List T) (o : Option (List Int)) : Prop where
  own : (holdL a c ts).Own wr (b + 1)
  box : wr.heap[b]? = some (.cells #[.int .i64 6, .int .i64 0, .string ⟨#[]⟩, .slice a ts.length c, .slice none 0 0] 25 (0, 0))
  zero : wr.heap[z]? = some (.cells #[.int .i64 0, .int .i64 0, .string ⟨#[]⟩, .slice none 0 0, .slice none 0 0] 25 (0, 0))
  src : Rdr wr g K o
  only : Only [g, b] w0 wr
  inv : RPInv R deep (ts.map T.val) o
  lt : g < z
  ltz : z < b
  base : w0.heap.size = b + 1
  room : R.length ≤ 1000
theorem LsAt.row {w0 wr wX : World} {z b g : Nat} {K : Ctx} {R : List Int} {deep : Int} {a : Option Addr} {c : Nat} {ts : List T} {o : Option (List Int)} (h : LsAt w0 wr z b g K R deep a c ts o) (ho : Only [g] wr wX) : wX.ownsRow (b + 1) 25 5 (.slice a ts.length c) ts.length (ts.flatMap T.cells) :=
  own_rowL (h.own.keep ho (by have := h.lt; have := h.ltz; simp; omega) (Nat.le_refl _))
theorem LsAt.step {w0 wr w1 w2 w3 : World} {X Y : Obj} {z b g : Nat} {K : Ctx} {R R2 : List Int} {deep : Int} {a : Option Addr} {c : Nat} {ts : List T} {o : Option (List Int)} {y : T} {h' cap : Nat} (h : LsAt w0 wr z b g K R deep a c ts (some (1 :: R2))) (ho : Only [g] wr w1) (hy : y.Own w2 w1.heap.size) (ho2 : Only [g] w1 w2) (hs : Rdr w2 g K o) (hv : RVRel R2 deep y.val o)
    (hrow : w3.ownsRow (b + 1) 25 5 (.slice (some ⟨h', 0, none⟩) (ts.length + 1) cap) (ts.length + 1) (ts.flatMap T.cells ++ y.cells)) (hg : ((w2.alloc X).alloc Y).grownBy w3 (Value.slice a ts.length c).ownBlock) (hat : (Value.slice a ts.length c).ownBlock = some h' ∨ h' = ((w2.alloc X).alloc Y).heap.size) :
    w3.heap[b]? = some (.cells #[.int .i64 6, .int .i64 0, .string ⟨#[]⟩, .slice a ts.length c, .slice none 0 0] 25 (0, 0)) ∧
    LsAt w0 (w3.setCell ⟨b, 3, none⟩ (.slice (some ⟨h', 0, none⟩) (ts.length + 1) cap)) z b g K R deep (some ⟨h', 0, none⟩) cap (ts ++ [y]) o := by
  have hX : Below w2.heap.size w2 ((w2.alloc X).alloc Y) := below2 _ _ _
  have oX : Only [g] wr ((w2.alloc X).alloc Y) := (ho.trans ho2).trans (Only.of_below hX)
  have hlt := h.lt
  have hltz := h.ltz
  have hB := h.base
  have hsz0 := h.only.size
  have hbase : ∀ i ∈ [g], i < b + 1 := by simp; omega
  obtain ⟨wm, hsz, om, bm⟩ := only_split oX
  obtain ⟨e1, e2⟩ := h.inv.eq _ rfl
  have hroom := h.room
  simp only [List.length_map, List.length_cons] at e2
  have hblk : ∀ i, (Value.slice a ts.length c).ownBlock = some i → b + 1 ≤ i := fun i hi => ((h.row oX).lt i hi).1
  have hown := own_addL (h.own.keep om hbase (Nat.le_refl _)) (hy.keep (Only.of_below (S := []) hX) (by simp) (Nat.le_refl _)) bm (by rw [hsz]; exact ho.size) (by have := ho.size; omega) (by unfold okLen; omega) (cap_of hrow) hrow hg (hat.imp id (fun e => by omega))
  have o3 : Only (Value.slice a ts.length c).ownBlock.toList ((w2.alloc X).alloc Y) w3 := only_grow hg
  have hnot : ∀ i, i < b + 1 → i ∉ (Value.slice a ts.length c).ownBlock.toList := fun i hi hc => by have := hblk i (by simpa using hc); omega
  have bx : w3.heap[b]? = _ := keep_row o3 (keep_row oX h.box (by simp; omega)) (hnot b (by omega))
  have zx : w3.heap[z]? = _ := keep_row o3 (keep_row oX h.zero (by simp; omega)) (hnot z (by omega))
  have os := only_setO w3 b 3 (.slice (some ⟨h', 0, none⟩) (ts.length + 1) cap)
  have hs3 : Rdr w3 g K o := (hs.then_ hX).only o3 (fun i hi => by have := hblk i (by simpa using hi); omega)
  refine ⟨bx, ?_, ?_, keep_row os zx (by simp; omega), hs3.only os (by simp; omega), ?_, ?_, hlt, hltz, hB, h.room⟩
  · exact hown.keep os (by simp) (Nat.le_refl _)
  · rw [heap_setCell_same _ _ _ _ _ _ bx, List.length_append]; rfl
  · have q1 : Only [g, b] w0 w3 := (h.only.trans (oX.sub (by simp))).then_ o3 (fun i hi => .inr (by have := hblk i (by simpa using hi); omega))
    exact q1.trans (os.sub (by simp))
  · rw [List.map_append]; exact h.inv.more hv
theorem rv_len {R : List Int} {deep : Int} {v : V} {o : Option (List Int)} (h : RVRel R deep v o) : lenO o ≤ 1 + R.length := by
  rcases o with _ | Q
  · simp [lenO]
  · have := (h.1 Q rfl).2; simp [lenO]; omega
set_option maxHeartbeats 8000000 in
theorem rd_list (R1 : List Int) (ih : ∀ R2 : List Int, R2.length < R1.length → RVAt R2) (w : World) (g : Nat) (K : Ctx) (deep : Int) (d0 : 0 ≤ deep) (d1 : deep ≤ 20) (h : Rdr w g K (some (6 :: R1))) : Calls Tryd.prog 53 #[.pointer (some ⟨g, 0, none⟩), .int .i64 deep] w (RReadsV (6 :: R1) deep g K w) := by
  obtain ⟨i0, hi0, hz0, hz1, hz2⟩ := info_parts info_value
  have I0 := Lib.hid (And.intro hi0 (And.intro hz0 (And.intro hz1 hz2)))
  clear hi0 hz0 hz1 hz2
  have hlt := h.lt
  have hroom := h.room
  have HS := Lib.hid h
  have IH := Lib.hid ih
  have hd20 : ¬ 20 < deep := by omega
  clear h ih
  go_enter Tryd.func53, Tryd.ntmps53
  go_wp2_with (first
    | (go_at_call 86; refine (refNext_any _ g K _ (HS.out.then_ (below1 _ _))).mono ?_; simp only [nextR]; rintro e w1 ⟨rfl, hs1, ho1⟩; have f1 := hs1.frozen; obtain ⟨i, hb⟩ := hs1.ok; have c1 := row_cells hb; have hB := RBox.start hlt hs1 ho1; have c2 := (fun v => row_cells (hB.cellsF v)); have f2 := (fun v o => frozen_of_row _ _ o _ _ (hB.cellsF v)); have c3 := (fun X => row_cells (row_then hB.zero (below1 w1 X))); have f3 := (fun X o => frozen_of_row _ _ o _ _ (row_then hB.zero (below1 w1 X))); have lt1 : w.heap.size < w1.heap.size := lt_of_block hB.zero; have S1 := Lib.hid hB; clear hs1 ho1 hb hB))
  go_loopw [11] (fun _ wr => ∃ a c ts o, LsAt (w1.alloc (.cells #[.int .i64 6, .int .i64 0, .string ⟨#[]⟩, .slice none 0 0, .slice none 0 0] 25)) wr w.heap.size w1.heap.size g K R1 (deep + 1) a c ts o) (fun _ wr => leftO wr g K.bs.length)
  case atStart => exact ⟨none, 0, [], some R1, holdL_start _ _, heap_alloc_new _ _, row_then S1.out.zero (below1 _ _), S1.out.src.then_ (below1 _ _), Only.refl _ _, RPInv.start _ _, hlt, lt1, World.size_alloc _ _, by simp at hroom; omega⟩
  case round =>
    obtain ⟨a, c, ts, o, hP⟩ := hrel
    have HP := Lib.hid hP
    have HM := Lib.hid (rdMore_any wr g K o hP.src)
    cases hm : (moreR o).1
    · have HE := Lib.hid (hP.inv.end_ hm)
      rw [hm] at HM
      generalize (moreR o).2 = o2 at *
      clear hP hm c1 f1 c2 f2 c3 f3
      go_wp2_with (first
        | (go_at_call 88; refine HM.out.mono ?_; rintro e w2 ⟨rfl, hs2, ho2⟩; have rb := keep_row ho2 HP.out.box (by have := HP.out.lt; simp; omega); have rz := keep_row ho2 HP.out.zero (by have := HP.out.lt; simp; omega); have cb := row_cells rb; have cz := row_cells rz; have fz := (fun o => frozen_of_row _ _ o _ _ rz); have S2 := Lib.hid (And.intro hs2 (And.intro ho2 rz)); clear hs2 ho2 rb rz))
      have cp := row_cells (putfive S2.out.2.2 (.int .i64 6) (.int .i64 0) (.string ⟨#[]⟩) (.slice a ts.length c) (.slice none 0 0))
      refine bodyPost_ret (v := .agg #[.int .i64 6, .int .i64 0, .string ⟨#[]⟩, .slice a ts.length c, .slice none 0 0]) (by simp [results, Tryd.results53, go_sem, cp]) rfl ?_
      have op := only_put5 w2 w.heap.size (.int .i64 6) (.int .i64 0) (.string ⟨#[]⟩) (.slice a ts.length c) (.slice none 0 0)
      have hg := HP.out.lt
      refine ⟨holdL a c ts, o2, rfl, ((HP.out.own.keep S2.out.2.1 (by simp; omega) (Nat.le_refl _)).keep op (by simp; omega) (by omega)), S2.out.1.only op (by simp; omega), ?_, (by rw [holdL, T.val_mk]; exact HE.out)⟩
      have q1 : Only [g] w (w1.alloc (.cells #[.int .i64 6, .int .i64 0, .string ⟨#[]⟩, .slice none 0 0, .slice none 0 0] 25)) := S1.out.only.trans (Only.of_below (below1 _ _))
      exact (((q1.then_ HP.out.only (by simp; omega)).trans S2.out.2.1).then_ op (by simp))
    · obtain ⟨R2, rfl, e2⟩ := moreR_true hm
      rw [hm, e2] at HM
      have hl2 := (hP.inv.eq _ rfl).2
      simp only [List.length_map, List.length_cons] at hl2
      have HV := Lib.hid (IH.out R2 (by omega))
      clear hP hm e2 c1 f1 c2 f2 c3 f3
      have hl3 : ts.length ≤ 1000 := by simp at hroom; omega
      go_wp2_with (first
        | (go_at_call 88; refine HM.out.mono ?_; rintro e w2 ⟨rfl, hs2, ho2⟩; have S2 := Lib.hid (And.intro hs2 ho2); clear hs2 ho2)
        | (go_at_call 53; refine (HV.out w2 g K (deep + 1) (by omega) (by omega) S2.out.1).mono ?_; rintro e w3 ⟨⟨ky, ny, sy, lay, lcy, ly, day, dcy, dy⟩, o3, rfl, hy, hs3, ho3, hv⟩; dsimp only [T.arg, T.cells]; have rb := keep_row ho3 (keep_row S2.out.2 HP.out.box (by have := HP.out.lt; simp; omega)) (by have := HP.out.lt; simp; omega); have cb := (fun X => row_cells (row_then rb (below1 w3 X))); have S3 := Lib.hid (And.intro hs3 (And.intro ho3 (And.intro hy hv))); clear hs3 ho3 hy hv rb)
        | (at_builtin; refine wpList_append_lies _ rfl (.tmp 100) (.tmp 102) 22 rfl (w1.heap.size + 1) 25 i0 _ 5 80 Tryd.underlying22 I0.out.1 I0.out.2.1 I0.out.2.2.1 I0.out.2.2.2 rfl (by decide) _ ts.length (ts.flatMap T.cells) rfl (HP.out.row ((S2.out.2.trans S3.out.2.1).trans (Only.of_below (below2 _ _ _)))) ⟨w3.heap.size + 1, 0, none⟩ 1 1 [.int .i64 ky, .int .i64 ny, .string sy, .slice lay ly.length lcy, .slice day dy.length dcy] rfl rfl (news_at _ _ _ _ (by simp)) (by simp [Value.oneCell']) (by omega) (by unfold maxLen; omega) (by omega) (by have := HP.out.only.size; have := HP.out.base; have := S2.out.2.size; have := S3.out.2.1.size; have := (below2 w3 (.cells #[.int .i64 ky, .int .i64 ny, .string sy, .slice lay ly.length lcy, .slice day dy.length dcy] 25) (.cells #[.int .i64 ky, .int .i64 ny, .string sy, .slice lay ly.length lcy, .slice day dy.length dcy] 25)).size; omega) _ rfl ?_; intro h4 cap w4 hrow hgrow hat _; have G4 := HP.out.step S2.out.2 S3.out.2.2.1 S3.out.2.1 S3.out.1 S3.out.2.2.2 hrow hgrow hat; have cb4 := row_cells G4.1; have fb4 := (fun o => frozen_of_row _ _ o _ _ G4.1); replace G4 := Lib.hid G4.2; clear hrow hgrow hat))
      go_roundw
      case rel => exact ⟨_, _, _, _, G4.out⟩
      case measure => rw [G4.out.src.left, HP.out.src.left]; have := rv_len S3.out.2.2.2; simp [lenO] at this ⊢; omega
end Go.Proofs.YtdlgngnibbaamaaDoor
namespace Go.Proofs.YtdlgngnibbaamaaDoor
open Go.RowKit
set_option maxRecDepth 100000

/-- A document as far as it is read. -/
structure DsAt (w0 wr : World) (z b g : Nat) (K : Ctx) (R : List Int) (deep : Int) (a : Option Addr) (c : Nat) (fs : List (ByteArray × T)) (o : Option (List Int)) : Prop where
  own : (holdD a c fs).Own wr (b + 1)
  box : wr.heap[b]? = some (.cells #[.int .i64 5, .int .i64 0, .string ⟨#[]⟩, .slice none 0 0, .slice a fs.length c] 25 (0, 0))
  zero : wr.heap[z]? = some (.cells #[.int .i64 0, .int .i64 0, .string ⟨#[]⟩, .slice none 0 0, .slice none 0 0] 25 (0, 0))
  src : Rdr wr g K o
  only : Only [g, b] w0 wr
  inv : RDInv R deep (fs.map (fun q => (q.1, q.2.val))) o
  lt : g < z
  ltz : z < b
  base : w0.heap.size = b + 1
  room : R.length ≤ 1000
theorem DsAt.row {w0 wr wX : World} {z b g : Nat} {K : Ctx} {R : List Int} {deep : Int} {a : Option Addr} {c : Nat} {fs : List (ByteArray × T)} {o : Option (List Int)} (h : DsAt w0 wr z b g K R deep a c fs o) (ho : Only [g] wr wX) : wX.ownsRow (b + 1) 62 6 (.slice a fs.length c) fs.length (fs.flatMap fcells) :=
  own_rowD (h.own.keep ho (by have := h.lt; have := h.ltz; simp; omega) (Nat.le_refl _))
theorem DsAt.step {w0 wr w1 w2 w3 : World} {X Y : Obj} {z b g : Nat} {K : Ctx} {R R2 : List Int} {deep : Int} {a : Option Addr} {c : Nat} {fs : List (ByteArray × T)} {o : Option (List Int)} {f : ByteArray} {y : T} {h' cap : Nat} (h : DsAt w0 wr z b g K R deep a c fs (some (1 :: R2))) (ho : Only [g] wr w1) (hy : y.Own w2 w1.heap.size) (ho2 : Only [g] w1 w2) (hs : Rdr w2 g K o) (hf : okLen f.size) (hv : RDInv R deep ((fs ++ [(f, y)]).map (fun q => (q.1, q.2.val))) o)
    (hrow : w3.ownsRow (b + 1) 62 6 (.slice (some ⟨h', 0, none⟩) (fs.length + 1) cap) (fs.length + 1) (fs.flatMap fcells ++ fcells (f, y))) (hg : ((w2.alloc X).alloc Y).grownBy w3 (Value.slice a fs.length c).ownBlock) (hat : (Value.slice a fs.length c).ownBlock = some h' ∨ h' = ((w2.alloc X).alloc Y).heap.size) :
    w3.heap[b]? = some (.cells #[.int .i64 5, .int .i64 0, .string ⟨#[]⟩, .slice none 0 0, .slice a fs.length c] 25 (0, 0)) ∧
    DsAt w0 (w3.setCell ⟨b, 4, none⟩ (.slice (some ⟨h', 0, none⟩) (fs.length + 1) cap)) z b g K R deep (some ⟨h', 0, none⟩) cap (fs ++ [(f, y)]) o := by
  have hX : Below w2.heap.size w2 ((w2.alloc X).alloc Y) := below2 _ _ _
  have oX : Only [g] wr ((w2.alloc X).alloc Y) := (ho.trans ho2).trans (Only.of_below hX)
  have hlt := h.lt
  have hltz := h.ltz
  have hB := h.base
  have hsz0 := h.only.size
  have hbase : ∀ i ∈ [g], i < b + 1 := by simp; omega
  obtain ⟨wm, hsz, om, bm⟩ := only_split oX
  obtain ⟨e1, e2⟩ := h.inv.eq _ rfl
  have hroom := h.room
  simp only [List.length_map, List.length_cons] at e2
  have hblk : ∀ i, (Value.slice a fs.length c).ownBlock = some i → b + 1 ≤ i := fun i hi => ((h.row oX).lt i hi).1
  have hown := own_addD (h.own.keep om hbase (Nat.le_refl _)) (hy.keep (Only.of_below (S := []) hX) (by simp) (Nat.le_refl _)) bm (by rw [hsz]; exact ho.size) (by have := ho.size; omega) hf (by unfold okFar; omega) (cap_of hrow) hrow hg (hat.imp id (fun e => by omega))
  have o3 : Only (Value.slice a fs.length c).ownBlock.toList ((w2.alloc X).alloc Y) w3 := only_grow hg
  have hnot : ∀ i, i < b + 1 → i ∉ (Value.slice a fs.length c).ownBlock.toList := fun i hi hc => by have := hblk i (by simpa using hc); omega
  have bx : w3.heap[b]? = _ := keep_row o3 (keep_row oX h.box (by simp; omega)) (hnot b (by omega))
  have zx : w3.heap[z]? = _ := keep_row o3 (keep_row oX h.zero (by simp; omega)) (hnot z (by omega))
  have os := only_setO w3 b 4 (.slice (some ⟨h', 0, none⟩) (fs.length + 1) cap)
  have hs3 : Rdr w3 g K o := (hs.then_ hX).only o3 (fun i hi => by have := hblk i (by simpa using hi); omega)
  refine ⟨bx, ?_, ?_, keep_row os zx (by simp; omega), hs3.only os (by simp; omega), ?_, ?_, hlt, hltz, hB, h.room⟩
  · exact hown.keep os (by simp) (Nat.le_refl _)
  · rw [heap_setCell_same _ _ _ _ _ _ bx, List.length_append]; rfl
  · have q1 : Only [g, b] w0 w3 := (h.only.trans (oX.sub (by simp))).then_ o3 (fun i hi => .inr (by have := hblk i (by simpa using hi); omega))
    exact q1.trans (os.sub (by simp))
  · exact hv
/-- A field's value, whether or not its name was read. -/
theorem rd_field {R R2 : List Int} {deep : Int} {acc : List (ByteArray × V)} {s : ByteArray} {o1 : Option (List Int)} (h : RDInv R deep acc (some (1 :: R2))) (ht : RTextRel R2 s o1) (ih : ∀ R3 : List Int, R3.length ≤ R2.length → RVAt R3) (d0 : 0 ≤ deep) (d1 : deep ≤ 21) (w : World) (g : Nat) (K : Ctx) (hs : Rdr w g K o1) :
    Calls Tryd.prog 53 #[.pointer (some ⟨g, 0, none⟩), .int .i64 deep] w fun e w' => ∃ (t : T) (o : Option (List Int)), e = .returned t.arg ∧ t.Own w' w.heap.size ∧ Rdr w' g K o ∧ Only [g] w w' ∧ RDInv R deep (acc ++ [(s, t.val)]) o ∧ lenO o ≤ 1 + R2.length := by
  rcases ht with ⟨R3, rfl, ht⟩ | ⟨rfl, -, R3, ht⟩
  · refine (ih R3 ht.2.2.1 w g K deep d0 d1 hs).mono ?_
    rintro e w' ⟨t, o, rfl, q1, q2, q3, q4⟩
    exact ⟨t, o, rfl, q1, q2, q3, h.more ht q4, by have := rv_len q4; have := ht.2.2.1; omega⟩
  · refine (rdValue_none w g K deep hs).mono ?_
    rintro e w' ⟨rfl, q1, q2, q3⟩
    exact ⟨zeroO, none, rfl, q1, q2, q3, h.stop ht _, by simp [lenO]⟩
theorem rtext_size {R : List Int} {s : ByteArray} {o : Option (List Int)} (h : RTextRel R s o) : s.size ≤ R.length := by
  rcases h with ⟨R', -, h⟩ | ⟨-, h, -⟩
  · exact h.2.2.2
  · exact h
set_option maxHeartbeats 8000000 in
theorem rd_doc (R1 : List Int) (ih : ∀ R2 : List Int, R2.length < R1.length → RVAt R2) (w : World) (g : Nat) (K : Ctx) (deep : Int) (d0 : 0 ≤ deep) (d1 : deep ≤ 20) (h : Rdr w g K (some (5 :: R1))) : Calls Tryd.prog 53 #[.pointer (some ⟨g, 0, none⟩), .int .i64 deep] w (RReadsV (5 :: R1) deep g K w) := by
  obtain ⟨i0, hi0, hz0, hz1, hz2⟩ := info_parts info_field
  have I0 := Lib.hid (And.intro hi0 (And.intro hz0 (And.intro hz1 hz2)))
  clear hi0 hz0 hz1 hz2
  have hlt := h.lt
  have hroom := h.room
  have HS := Lib.hid h
  have IH := Lib.hid ih
  have hd20 : ¬ 20 < deep := by omega
  clear h ih
  go_enter Tryd.func53, Tryd.ntmps53
  go_wp2_with (first
    | (go_at_call 86; refine (refNext_any _ g K _ (HS.out.then_ (below1 _ _))).mono ?_; simp only [nextR]; rintro e w1 ⟨rfl, hs1, ho1⟩; have f1 := hs1.frozen; obtain ⟨i, hb⟩ := hs1.ok; have c1 := row_cells hb; have hB := RBox.start hlt hs1 ho1; have c2 := (fun v => row_cells (hB.cellsF v)); have f2 := (fun v o => frozen_of_row _ _ o _ _ (hB.cellsF v)); have c3 := (fun X => row_cells (row_then hB.zero (below1 w1 X))); have f3 := (fun X o => frozen_of_row _ _ o _ _ (row_then hB.zero (below1 w1 X))); have lt1 : w.heap.size < w1.heap.size := lt_of_block hB.zero; have S1 := Lib.hid hB; clear hs1 ho1 hb hB))
  go_loopw [12, 13] (fun _ _ wr => ∃ a c fs o, DsAt (w1.alloc (.cells #[.int .i64 5, .int .i64 0, .string ⟨#[]⟩, .slice none 0 0, .slice none 0 0] 25)) wr w.heap.size w1.heap.size g K R1 (deep + 1) a c fs o) (fun _ _ wr => leftO wr g K.bs.length)
  case atStart => exact ⟨none, 0, [], some R1, holdD_start _ _, heap_alloc_new _ _, row_then S1.out.zero (below1 _ _), S1.out.src.then_ (below1 _ _), Only.refl _ _, RDInv.start _ _, hlt, lt1, World.size_alloc _ _, by simp at hroom; omega⟩
  case round =>
    obtain ⟨a, c, fs, o, hP⟩ := hrel
    have HP := Lib.hid hP
    have HM := Lib.hid (rdMore_any wr g K o hP.src)
    cases hm : (moreR o).1
    · have HE := Lib.hid (hP.inv.end_ hm)
      rw [hm] at HM
      generalize (moreR o).2 = o2 at *
      clear hP hm c1 f1 c2 f2 c3 f3
      go_wp2_with (first
        | (go_at_call 88; refine HM.out.mono ?_; rintro e w2 ⟨rfl, hs2, ho2⟩; have rb := keep_row ho2 HP.out.box (by have := HP.out.lt; simp; omega); have rz := keep_row ho2 HP.out.zero (by have := HP.out.lt; simp; omega); have cb := row_cells rb; have cz := row_cells rz; have fz := (fun o => frozen_of_row _ _ o _ _ rz); have S2 := Lib.hid (And.intro hs2 (And.intro ho2 rz)); clear hs2 ho2 rb rz))
      have cp := row_cells (putfive S2.out.2.2 (.int .i64 5) (.int .i64 0) (.string ⟨#[]⟩) (.slice none 0 0) (.slice a fs.length c))
      refine bodyPost_ret (v := .agg #[.int .i64 5, .int .i64 0, .string ⟨#[]⟩, .slice none 0 0, .slice a fs.length c]) (by simp [results, Tryd.results53, go_sem, cp]) rfl ?_
      have op := only_put5 w2 w.heap.size (.int .i64 5) (.int .i64 0) (.string ⟨#[]⟩) (.slice none 0 0) (.slice a fs.length c)
      have hg := HP.out.lt
      refine ⟨holdD a c fs, o2, rfl, ((HP.out.own.keep S2.out.2.1 (by simp; omega) (Nat.le_refl _)).keep op (by simp; omega) (by omega)), S2.out.1.only op (by simp; omega), ?_, (by rw [holdD, T.val_mk]; exact HE.out)⟩
      have q1 : Only [g] w (w1.alloc (.cells #[.int .i64 5, .int .i64 0, .string ⟨#[]⟩, .slice none 0 0, .slice none 0 0] 25)) := S1.out.only.trans (Only.of_below (below1 _ _))
      exact (((q1.then_ HP.out.only (by simp; omega)).trans S2.out.2.1).then_ op (by simp))
    · obtain ⟨R2, rfl, e2⟩ := moreR_true hm
      rw [hm, e2] at HM
      have hl2 := (hP.inv.eq _ rfl).2
      simp only [List.length_map, List.length_cons] at hl2
      have HV := Lib.hid (fun (s : ByteArray) (o1 : Option (List Int)) (ht : RTextRel R2 s o1) => rd_field hP.inv ht (fun R3 h3 => IH.out R3 (by omega)) (by omega) (by omega))
      have hl4 : R2.length ≤ 1000 := by simp at hroom; omega
      clear hP hm e2 c1 f1 c2 f2 c3 f3
      have hl3 : fs.length ≤ 1000 := by simp at hroom; omega
      go_wp2_with (first
        | (go_at_call 88; refine HM.out.mono ?_; rintro e w2 ⟨rfl, hs2, ho2⟩; have S2 := Lib.hid (And.intro hs2 ho2); clear hs2 ho2)
        | (go_at_call 87; refine (rdText_any w2 g K R2 S2.out.1).mono ?_; rintro e w5 ⟨sf, o1, rfl, hs5, ho5, ht⟩; have S5 := Lib.hid (And.intro hs5 (And.intro (S2.out.2.trans ho5) ht)); clear hs5 ho5 ht)
        | (go_at_call 53; refine (HV.out sf o1 S5.out.2.2 w5 g K S5.out.1).mono ?_; rintro e w3 ⟨⟨ky, ny, sy, lay, lcy, ly, day, dcy, dy⟩, o3, rfl, hy, hs3, ho3, hv, hlv⟩; dsimp only [T.arg, T.cells]; have rb := keep_row ho3 (keep_row S5.out.2.1 HP.out.box (by have := HP.out.lt; simp; omega)) (by have := HP.out.lt; simp; omega); have cb := (fun X => row_cells (row_then rb (below1 w3 X))); have S3 := Lib.hid (And.intro hs3 (And.intro ho3 (And.intro hy (And.intro hv hlv)))); clear hs3 ho3 hy hv hlv rb)
        | (at_builtin; refine wpList_append_lies _ rfl (.tmp 116) (.tmp 120) 23 rfl (w1.heap.size + 1) 62 i0 _ 6 96 Tryd.underlying23 I0.out.1 I0.out.2.1 I0.out.2.2.1 I0.out.2.2.2 rfl (by decide) _ fs.length (fs.flatMap fcells) rfl (HP.out.row ((S5.out.2.1.trans S3.out.2.1).trans (Only.of_below (below2 _ _ _)))) ⟨w3.heap.size + 1, 0, none⟩ 1 1 [.string sf, .int .i64 ky, .int .i64 ny, .string sy, .slice lay ly.length lcy, .slice day dy.length dcy] rfl rfl (news_at _ _ _ _ (by simp)) (by simp [Value.oneCell']) (by omega) (by unfold maxLen; omega) (by omega) (by have := HP.out.only.size; have := HP.out.base; have := S5.out.2.1.size; have := S3.out.2.1.size; have := (below2 w3 (.cells #[.int .i64 ky, .int .i64 ny, .string sy, .slice lay ly.length lcy, .slice day dy.length dcy] 25) (.cells #[.string sf, .int .i64 ky, .int .i64 ny, .string sy, .slice lay ly.length lcy, .slice day dy.length dcy] 62)).size; omega) _ rfl ?_; intro h4 cap w4 hrow hgrow hat _; have G4 := HP.out.step S5.out.2.1 S3.out.2.2.1 S3.out.2.1 S3.out.1 (by have := rtext_size S5.out.2.2; unfold okLen; omega) (by rw [List.map_append]; exact S3.out.2.2.2.1) hrow hgrow hat; have cb4 := row_cells G4.1; have fb4 := (fun o => frozen_of_row _ _ o _ _ G4.1); replace G4 := Lib.hid G4.2; clear hrow hgrow hat))
      go_roundw
      case rel => exact ⟨_, _, _, _, G4.out⟩
      case measure => rw [G4.out.src.left, HP.out.src.left]; have := S3.out.2.2.2.2; simp [lenO] at this ⊢; omega
theorem rdValue_any (n : Nat) : ∀ R : List Int, R.length ≤ n → RVAt R := by
  induction n with
  | zero => intro R h; have := List.eq_nil_of_length_eq_zero (Nat.le_zero.1 h); subst this; exact rd_nil
  | succ n ih =>
    intro R h
    cases R with
    | nil => exact rd_nil
    | cons x R1 =>
      have h1 : R1.length ≤ n := by simpa using h
      by_cases hk : x < 1 ∨ 11 < x
      · exact rd_kind x R1 hk
      by_cases h3 : x = 3
      · subst h3; exact rd_num3 R1
      by_cases h10 : x = 10
      · subst h10; exact rd_num10 R1
      by_cases h9 : x = 9
      · subst h9; exact rd_bool R1
      by_cases h4 : x = 4
      · subst h4; exact rd_text4 R1
      by_cases h7 : x = 7
      · subst h7; exact rd_text7 R1
      by_cases h8 : x = 8
      · subst h8; exact rd_id R1
      by_cases h6 : x = 6
      · subst h6
        intro w g K deep d0 d1 hs
        by_cases hd : 20 < deep
        · exact rd_deep6 R1 w g K deep hd hs
        · exact rd_list R1 (fun R2 h2 => ih R2 (by omega)) w g K deep d0 (by omega) hs
      by_cases h5 : x = 5
      · subst h5
        intro w g K deep d0 d1 hs
        by_cases hd : 20 < deep
        · exact rd_deep5 R1 w g K deep hd hs
        · exact rd_doc R1 (fun R2 h2 => ih R2 (by omega)) w g K deep d0 (by omega) hs
      · exact rd_plain x R1 (by omega)
#print axioms rdValue_any
end Go.Proofs.YtdlgngnibbaamaaDoor
