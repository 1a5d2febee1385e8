/- How keyenc's reader goes through a key's bytes: the contract of its closure; no statement is proved here. -/
import Derived.Test.YtdlgngnibbaamaaDoorKKey
import Derived.Laws.BytesArg
namespace Go.Proofs.YtdlgngnibbaamaaDoor
open Go.RowKit
set_option maxRecDepth 100000

/-- What is read: bytes that lie there, turned or not. -/
structure Ctx where
  a : Option Addr
  c : Nat
  bs : List Int
  f : Bool
def tf (f : Bool) (l : List Int) : List Int := if f then flip l else l
theorem tf_len (f : Bool) (l : List Int) : (tf f l).length = l.length := by cases f <;> simp [tf, flip_len]
theorem flip_flip (l : List Int) : flip (flip l) = l := by
  unfold flip
  rw [List.map_map]
  conv => rhs; rw [← List.map_id l]
  apply List.map_congr_left
  intro x _
  show 255 - (255 - x) = x
  omega
theorem tf_tf (f : Bool) (l : List Int) : tf f (tf f l) = l := by cases f <;> simp [tf, flip_flip]
theorem tf_append (f : Bool) (a b : List Int) : tf f (a ++ b) = tf f a ++ tf f b := by cases f <;> simp [tf, flip]
theorem tf_drop (f : Bool) (l : List Int) (i : Nat) : tf f (l.drop i) = (tf f l).drop i := by cases f <;> simp [tf, flip]
theorem isB_tf {l : List Int} (f : Bool) (h : isB l) : isB (tf f l) := by cases f; exact h; exact isB_flip h
theorem isB.drop {l : List Int} (h : isB l) (i : Nat) : isB (l.drop i) := fun b hb => h b (List.mem_of_mem_drop hb)
/-- A reader at a place: its bytes' box, its place's, its turning's. -/
structure SrcAt (w : World) (B : Nat) (K : Ctx) (i : Nat) : Prop where
  box : w.heap[B]? = some (.cells #[.slice K.a K.bs.length K.c] 28 (0, 0))
  place : w.heap[B + 1]? = some (.cells #[.int .i64 i] 3 (0, 0))
  falls : w.heap[B + 2]? = some (.cells #[.bool K.f] 4 (0, 0))
  inb : InB w K.a K.bs
  low : ∀ b o, K.a = some ⟨b, o, none⟩ → 1 ≤ K.bs.length → b < B
  le : i ≤ K.bs.length
  room : K.bs.length ≤ 1000
  byte : isB K.bs
/-- What is left to be read. -/
def Src (w : World) (B : Nat) (K : Ctx) (R : List Int) : Prop := ∃ i, SrcAt w B K i ∧ (tf K.f K.bs).drop i = R
theorem SrcAt.size {w : World} {B : Nat} {K : Ctx} {i : Nat} (h : SrcAt w B K i) : B + 3 ≤ w.heap.size := lt_of_block h.falls
theorem SrcAt.keep {w w' : World} {B : Nat} {K : Ctx} {i j : Nat} (h : SrcAt w B K i) (ho : Only [B + 1] w w') (hp : w'.heap[B + 1]? = some (.cells #[.int .i64 j] 3 (0, 0))) (hj : j ≤ K.bs.length) : SrcAt w' B K j := by
  have hs := h.size
  refine ⟨keep_row ho h.box (by simp), hp, keep_row ho h.falls (by simp), fun i x hx => ?_, h.low, hj, h.room, h.byte⟩
  obtain ⟨b, o, e, hc⟩ := h.inb i x hx
  refine ⟨b, o, e, (World.cell?_of_block (ho.block b (cell_lt hc) ?_)).trans hc⟩
  have := h.low b o e (by have := lt_of_get hx; omega)
  simp; omega
theorem Src.size {w : World} {B : Nat} {K : Ctx} {R : List Int} (h : Src w B K R) : B + 3 ≤ w.heap.size := by obtain ⟨i, h, -⟩ := h; exact h.size
theorem Src.then_ {w w' : World} {B : Nat} {K : Ctx} {R : List Int} (h : Src w B K R) (hb : Below w.heap.size w w') : Src w' B K R := by
  obtain ⟨i, h, e⟩ := h
  exact ⟨i, h.keep (Only.of_below hb) (row_then h.place hb) h.le, e⟩
theorem Src.isB {w : World} {B : Nat} {K : Ctx} {R : List Int} (h : Src w B K R) : isB R := by
  obtain ⟨i, h, rfl⟩ := h
  exact (isB_tf K.f h.byte).drop i
/-- How much is left, as the place's box tells it. -/
def leftOf (w : World) (B : Nat) (n : Nat) : Nat := n - (match w.cell? ⟨B + 1, 0, none⟩ with | some (.int _ i) => i.toNat | _ => 0)
theorem Src.left {w : World} {B : Nat} {K : Ctx} {R : List Int} (h : Src w B K R) : leftOf w B K.bs.length = R.length := by
  obtain ⟨i, h, rfl⟩ := h
  unfold leftOf
  rw [row_cells h.place 0]
  simp [tf_len]
/-- The reader's closure. -/
def nextF (B : Nat) : Value := .func (.func 84) #[] #[.pointer (some ⟨B + 1, 0, none⟩), .pointer (some ⟨B, 0, none⟩), .pointer (some ⟨B + 2, 0, none⟩)]
theorem drop_cases {l : List Int} {i : Nat} : (l.length ≤ i ∧ l.drop i = []) ∨ ∃ x, l[i]? = some x ∧ l.drop i = x :: l.drop (i + 1) := by
  rcases Nat.lt_or_ge i l.length with h | h
  · exact .inr ⟨l[i], List.getElem?_eq_getElem h, List.drop_eq_getElem_cons h⟩
  · exact .inl ⟨h, List.drop_eq_nil_of_le h⟩
theorem only_set (w : World) (g : Nat) (v : Value) : Only [g] w (w.setCell ⟨g, 0, none⟩ v) := (Only.refl [g] w).setCell (.inl (by simp)) v

set_option maxHeartbeats 2000000 in
theorem next_any (w : World) (B : Nat) (K : Ctx) (R : List Int) (h : Src w B K R) :
    Calls Tryd.prog 84 #[.pointer (some ⟨B + 1, 0, none⟩), .pointer (some ⟨B, 0, none⟩), .pointer (some ⟨B + 2, 0, none⟩)] w fun e w' => e = .returned (.int .i64 (R.headD (-1))) ∧ Src w' B K R.tail ∧ Only [B + 1] w w' := by
  obtain ⟨i, hs, rfl⟩ := h
  have c0 := row_cells hs.box
  have c1 := row_cells hs.place
  have c2 := row_cells hs.falls
  have f1 : w.frozen? ⟨B + 1, 0, none⟩ = false := frozen_of_row _ _ _ _ _ hs.place
  have hroom := hs.room
  have HS := Lib.hid hs
  obtain ⟨a, c, bs, f⟩ := K
  simp only at *
  rcases Nat.lt_or_ge i bs.length with hi | hi
  · obtain ⟨b, o, x, rfl, hx, x0⟩ := hs.inb.one hi
    simp only at hx x0
    obtain ⟨r0, r1⟩ := hs.byte x (List.mem_of_getElem? hx)
    have hb : b < B := hs.low b o rfl (show 1 ≤ bs.length by omega)
    have hlt := hs.size
    have hn : ∀ v, (w.setCell ⟨B + 1, 0, none⟩ v).cell? ⟨b, o + i, none⟩ = some (.int .u8 x) := fun v => (World.cell?_of_block (heap_setCell_other w _ _ _ (by simp; omega))).trans x0
    have hbx : ∀ v, (w.setCell ⟨B + 1, 0, none⟩ v).cell? ⟨B, 0, none⟩ = some (.slice (some ⟨b, o, none⟩) bs.length c) := fun v => (World.cell?_of_block (heap_setCell_other w _ _ _ (by simp))).trans (c0 0)
    have hf2 : ∀ v, (w.setCell ⟨B + 1, 0, none⟩ v).cell? ⟨B + 2, 0, none⟩ = some (.bool f) := fun v => (World.cell?_of_block (heap_setCell_other w _ _ _ (by simp))).trans (c2 0)
    have hp : (w.setCell ⟨B + 1, 0, none⟩ (.int .i64 ((i : Int) + 1))).heap[B + 1]? = some (.cells #[.int .i64 ((i + 1 : Nat) : Int)] 3 (0, 0)) := by
      rw [heap_setCell_same _ _ _ _ _ _ hs.place]; rfl
    have HK := Lib.hid (hs.keep (only_set w (B + 1) (.int .i64 ((i : Int) + 1))) hp (by simp; omega))
    have hne : ((i : Int) == (bs.length : Int)) = false := by simp; omega
    have hw : (255 - x) % 256 = 255 - x := by omega
    have HX := Lib.hid hx
    clear hs hx hp
    cases f
    · have HT := Lib.hid (show (tf false bs).drop i = x :: (tf false bs).drop (i + 1) from (drop_cases (l := bs) (i := i)).elim (fun h => by omega) (fun ⟨y, h1, h2⟩ => by rw [HX.out] at h1; injection h1 with h1; subst h1; exact h2))
      go_enter Tryd.func84, Tryd.ntmps84
      go_wp2_with fail
      go_ret
      rw [HT.out]
      exact ⟨rfl, ⟨i + 1, HK.out, rfl⟩, only_set _ _ _⟩
    · have hx2 : (tf true bs)[i]? = some (255 - x) := by rw [tf, if_pos rfl, flip, List.getElem?_map, HX.out]; rfl
      have HT := Lib.hid (show (tf true bs).drop i = (255 - x) :: (tf true bs).drop (i + 1) from (drop_cases (l := tf true bs) (i := i)).elim (fun h => by rw [tf_len] at h; omega) (fun ⟨y, h1, h2⟩ => by rw [hx2] at h1; injection h1 with h1; subst h1; exact h2))
      clear hx2
      go_enter Tryd.func84, Tryd.ntmps84
      go_wp2_with fail
      go_ret
      rw [HT.out]
      exact ⟨rfl, ⟨i + 1, HK.out, rfl⟩, only_set _ _ _⟩
  · have hie : i = bs.length := by have := hs.le; simp only at this; omega
    have HT := Lib.hid (show (tf f bs).drop i = [] from List.drop_eq_nil_of_le (by rw [tf_len]; exact hi))
    subst hie
    clear hs
    go_enter Tryd.func84, Tryd.ntmps84
    go_wp2_with fail
    go_ret
    rw [HT.out]
    exact ⟨rfl, ⟨bs.length, HS.out, HT.out⟩, Only.refl _ _⟩
end Go.Proofs.YtdlgngnibbaamaaDoor
