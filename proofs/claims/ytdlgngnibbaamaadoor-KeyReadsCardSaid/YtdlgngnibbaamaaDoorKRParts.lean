/- The contracts of keyenc's readParts: no statement is proved here. -/
import Derived.Test.YtdlgngnibbaamaaDoorKRId
import Derived.Test.YtdlgngnibbaamaaDoorKRow
import Derived.Test.YtdlgngnibbaamaaDoorAdd
namespace Go.Proofs.YtdlgngnibbaamaaDoor
open Go.RowKit
set_option maxRecDepth 100000

/-- A step that may turn the blocks of S, and then what only makes new ones. -/
theorem only_split {S : List Nat} {w w1 : World} (h : Only S w w1) : ∃ wm : World, wm.heap.size = w.heap.size ∧ Only S w wm ∧ Below wm.heap.size wm w1 := by
  have hs := h.size
  have hsz : (w1.heap.extract 0 w.heap.size).size = w.heap.size := by rw [Array.size_extract]; omega
  refine ⟨{ w1 with heap := w1.heap.extract 0 w.heap.size }, hsz, ⟨h.os, h.tape, h.output, by show w.heap.size ≤ (w1.heap.extract 0 w.heap.size).size; omega, fun k hk hn => ?_⟩, ⟨rfl, rfl, rfl, by show (w1.heap.extract 0 w.heap.size).size ≤ _; omega, fun k hk => ?_⟩⟩
  · show (w1.heap.extract 0 w.heap.size)[k]? = _
    rw [Array.getElem?_extract, if_pos (by omega), Nat.zero_add]
    exact h.block k hk hn
  · have hk2 : k < (w1.heap.extract 0 w.heap.size).size := hk
    show w1.heap[k]? = (w1.heap.extract 0 w.heap.size)[k]?
    rw [Array.getElem?_extract, if_pos (by omega), Nat.zero_add]

/-- What a value's reading says. -/
def VRel (R : List Int) (v : V) (ok : Bool) (R' : List Int) : Prop := (ok = true → v.shape = true → R = keyV v ++ R') ∧ (∀ v' Q, v'.shape = true → v'.fit → R = keyV v' ++ Q → ok = true ∧ v = v' ∧ R' = Q) ∧ R'.length ≤ R.length
def ReadsV (R : List Int) (B : Nat) (K : Ctx) (w : World) (e : Ending) (w' : World) : Prop := ∃ (t : T) (ok : Bool) (R' : List Int), e = .returned (.tuple #[t.arg, .bool ok]) ∧ t.Own w' w.heap.size ∧ Src w' B K R' ∧ Only [B + 1] w w' ∧ VRel R t.val ok R'
def VAt (R : List Int) : Prop := ∀ (w : World) (B : Nat) (K : Ctx), Src w B K R → Calls Tryd.prog 85 #[nextF B] w (ReadsV R B K w)
/-- A list's. -/
def PRel (R : List Int) (l : List V) (ok : Bool) (R' : List Int) : Prop := (ok = true → (∀ x ∈ l, x.shape = true) → R = keyL l ++ R') ∧ (∀ l' Q, (∀ x ∈ l', x.shape = true ∧ x.fit) → R = keyL l' ++ Q → ok = true ∧ l = l' ∧ R' = Q) ∧ R'.length ≤ R.length
structure PInv (R : List Int) (acc : List V) (Rk : List Int) : Prop where
  eq : (∀ x ∈ acc, x.shape = true) → R = pL acc ++ Rk
  all : ∀ l' Q, (∀ x ∈ l', x.shape = true ∧ x.fit) → R = keyL l' ++ Q → ∃ l'', l' = acc ++ l'' ∧ Rk = keyL l'' ++ Q
  len : acc.length + Rk.length ≤ R.length
theorem PInv.start (R : List Int) : PInv R [] R := ⟨fun _ => rfl, fun l' Q _ h => ⟨l', rfl, h⟩, by simp⟩
theorem PInv.more {R : List Int} {acc : List V} {R1 R2 : List Int} {x : V} (h : PInv R acc (1 :: R1)) (k : VRel R1 x true R2) : PInv R (acc ++ [x]) R2 := by
  refine ⟨fun hs => ?_, fun l' Q hg e => ?_, ?_⟩
  · rw [h.eq (fun y hy => hs y (by simp [hy])), k.1 rfl (hs x (by simp)), pL, pL, List.flatMap_append]; simp
  · obtain ⟨l'', rfl, e2⟩ := h.all l' Q hg e
    cases l'' with
    | nil => simp [keyL] at e2
    | cons y r =>
      rw [keyL] at e2
      simp only [List.cons_append, List.cons.injEq, true_and, List.append_assoc] at e2
      obtain ⟨-, rfl, rfl⟩ := k.2.1 y _ (hg y (by simp)).1 (hg y (by simp)).2 e2
      exact ⟨r, by simp, rfl⟩
  · have := h.len; have := k.2.2; simp at *; omega
theorem PInv.stop {R : List Int} {acc : List V} {R1 R2 : List Int} {x : V} (h : PInv R acc (1 :: R1)) (k : VRel R1 x false R2) : PRel R [] false R2 := by
  refine ⟨fun h => (by cases h), fun l' Q hg e => ?_, by have := h.len; have := k.2.2; simp at *; omega⟩
  obtain ⟨l'', rfl, e2⟩ := h.all l' Q hg e
  cases l'' with
  | nil => simp [keyL] at e2
  | cons y r =>
    rw [keyL] at e2
    simp only [List.cons_append, List.cons.injEq, true_and, List.append_assoc] at e2
    have := (k.2.1 y _ (hg y (by simp)).1 (hg y (by simp)).2 e2).1
    cases this
theorem PInv.done {R : List Int} {acc : List V} {R1 : List Int} (h : PInv R acc (0 :: R1)) : PRel R acc true R1 := by
  refine ⟨fun _ hs => by rw [h.eq hs, keyL_eq]; simp, fun l' Q hg e => ?_, by have := h.len; simp at *; omega⟩
  obtain ⟨l'', rfl, e2⟩ := h.all l' Q hg e
  cases l'' with
  | nil => simp [keyL] at e2; exact ⟨rfl, by simp, e2⟩
  | cons y r => simp [keyL] at e2
theorem PInv.fail {R : List Int} {acc : List V} {Rk R' : List Int} (h : PInv R acc Rk) (hk : Rk = [] ∨ ∃ y r, Rk = y :: r ∧ y ≠ 0 ∧ y ≠ 1) (hl : R'.length ≤ Rk.length) : PRel R [] false R' := by
  refine ⟨fun h => (by cases h), fun l' Q hg e => ?_, by have := h.len; omega⟩
  obtain ⟨l'', rfl, e2⟩ := h.all l' Q hg e
  exfalso
  rcases hk with rfl | ⟨y, r, rfl, h0, h1⟩
  · cases l'' <;> simp [keyL] at e2
  · cases l'' with
    | nil => simp [keyL] at e2; omega
    | cons z q => simp [keyL] at e2; omega
def holdL (a : Option Addr) (c : Nat) (ts : List T) : T := .mk 6 0 ⟨#[]⟩ a c ts none 0 []
theorem holdL_start (w : World) (B : Nat) : (holdL none 0 []).Own w B := by
  refine ⟨by simp [holdL, T.ok, T.okL, T.okD, okInt, okLen, okFar, ByteArray.size], fun r hr => ?_, by simp [holdL, T.rows, T.rowsL, T.rowsD, blocksOf, Value.ownBlock]⟩
  simp [holdL, T.rows, T.rowsL, T.rowsD] at hr
  rcases hr with rfl | rfl <;> exact World.ownsRow_nil _ _ _ _
def ReadsP (R : List Int) (B : Nat) (K : Ctx) (w : World) (e : Ending) (w' : World) : Prop := ∃ a c ts ok R', e = .returned (.tuple #[.slice a ts.length c, .bool ok]) ∧ (holdL a c ts).Own w' w.heap.size ∧ Src w' B K R' ∧ Only [B + 1] w w' ∧ PRel R (ts.map T.val) ok R'
structure PartsAt (w wr : World) (B : Nat) (K : Ctx) (R : List Int) (a : Option Addr) (c : Nat) (ts : List T) (Rk : List Int) : Prop where
  own : (holdL a c ts).Own wr w.heap.size
  src : Src wr B K Rk
  only : Only [B + 1] w wr
  inv : PInv R (ts.map T.val) Rk
  size : B + 3 ≤ w.heap.size
  room : R.length ≤ 1000
theorem PartsAt.row {w wr wX : World} {B : Nat} {K : Ctx} {R Rk : List Int} {a : Option Addr} {c : Nat} {ts : List T} (h : PartsAt w wr B K R a c ts Rk) (ho : Only [B + 1] wr wX) : wX.ownsRow w.heap.size 25 5 (.slice a ts.length c) ts.length (ts.flatMap T.cells) :=
  own_rowL (h.own.keep ho (by have := h.size; simp; omega) (Nat.le_refl _))
theorem PartsAt.step {w wr w1 w2 w3 : World} {X Y : Obj} {B : Nat} {K : Ctx} {R R1 R2 : List Int} {a : Option Addr} {c : Nat} {ts : List T} {y : T} {g cap : Nat} (h : PartsAt w wr B K R a c ts (1 :: R1)) (ho : Only [B + 1] wr w1) (hy : y.Own w2 w1.heap.size) (ho2 : Only [B + 1] w1 w2) (hs : Src w2 B K R2) (hv : VRel R1 y.val true R2)
    (hrow : w3.ownsRow w.heap.size 25 5 (.slice (some ⟨g, 0, none⟩) (ts.length + 1) cap) (ts.length + 1) (ts.flatMap T.cells ++ y.cells)) (hg : ((w2.alloc X).alloc Y).grownBy w3 (Value.slice a ts.length c).ownBlock) (hat : (Value.slice a ts.length c).ownBlock = some g ∨ g = ((w2.alloc X).alloc Y).heap.size) :
    PartsAt w w3 B K R (some ⟨g, 0, none⟩) cap (ts ++ [y]) R2 := by
  have hX : Below w2.heap.size w2 ((w2.alloc X).alloc Y) := below2 _ _ _
  have oX : Only [B + 1] wr ((w2.alloc X).alloc Y) := (ho.trans ho2).trans (Only.of_below hX)
  have hbase : ∀ b ∈ [B + 1], b < w.heap.size := by have := h.size; simp; omega
  obtain ⟨wm, hsz, om, bm⟩ := only_split oX
  have hlen := h.inv.len
  have hroom := h.room
  simp only [List.length_map, List.length_cons] at hlen
  have hblk : ∀ b, (Value.slice a ts.length c).ownBlock = some b → w.heap.size ≤ b := fun b hb => ((h.row oX).lt b hb).1
  have hown := own_addL (h.own.keep om hbase (Nat.le_refl _)) (hy.keep (Only.of_below (S := []) hX) (by simp) (Nat.le_refl _)) bm (by rw [hsz]; exact ho.size) (Nat.le_trans h.only.size ho.size) (by unfold okLen; omega) (cap_of hrow) hrow hg (hat.imp id (fun e => by omega))
  have o3 : Only (Value.slice a ts.length c).ownBlock.toList ((w2.alloc X).alloc Y) w3 := only_grow hg
  refine ⟨hown, (hs.then_ hX).only o3 (fun b hb => ?_), (h.only.trans oX).then_ o3 (fun b hb => .inr (hblk b (by simpa using hb))), ?_, h.size, h.room⟩
  · have := hblk b (by simpa using hb); have := h.size; omega
  · rw [List.map_append]; exact h.inv.more hv

set_option maxHeartbeats 4000000 in
theorem readParts_any (R : List Int) (ih : ∀ R1 : List Int, R1.length < R.length → VAt R1) (w : World) (B : Nat) (K : Ctx) (h : Src w B K R) :
    Calls Tryd.prog 113 #[nextF B, .func (.func 85) #[] #[]] w (ReadsP R B K w) := by
  show Calls _ _ #[.func (.func 84) #[] #[.pointer (some ⟨B + 1, 0, none⟩), .pointer (some ⟨B, 0, none⟩), .pointer (some ⟨B + 2, 0, none⟩)], .func (.func 85) #[] #[]] _ _
  obtain ⟨i0, hi0, hz0, hz1, hz2⟩ := info_parts info_value
  have I0 := Lib.hid (And.intro hi0 (And.intro hz0 (And.intro hz1 hz2)))
  clear hi0 hz0 hz1 hz2
  have hr : R.length ≤ 1000 := by obtain ⟨i, h, rfl⟩ := h; have := h.room; rw [List.length_drop, tf_len]; omega
  have HS := Lib.hid (show PartsAt w w B K R none 0 [] R from ⟨holdL_start _ _, h, Only.refl _ _, PInv.start R, h.size, hr⟩)
  have IH := Lib.hid ih
  clear h ih
  go_enter Tryd.func113, Tryd.ntmps113
  go_wp2_with fail
  go_loopw [6] (fun u wr => ∃ a c ts Rk, u = .slice a ts.length c ∧ PartsAt w wr B K R a c ts Rk) (fun _ wr => leftOf wr B K.bs.length)
  case atStart => exact ⟨none, 0, [], R, rfl, HS.out⟩
  case round =>
    obtain ⟨a, c, ts, Rk, rfl, hP⟩ := hrel
    have HP := Lib.hid hP
    have hlen := hP.inv.len
    simp only [List.length_map] at hlen
    clear hP
    rcases Rk with _ | ⟨x, R1⟩
    · go_wp2_with (first | (go_at_call 84; refine (next_any wr B K _ HP.out.src).mono ?_; rintro e w1 ⟨rfl, hs1, ho1⟩; have S1 := Lib.hid (And.intro hs1 ho1); clear hs1 ho1; simp only [List.headD_nil]))
      go_ret2
      exact ⟨none, 0, [], _, _, rfl, holdL_start _ _, S1.out.1, HP.out.only.trans S1.out.2, HP.out.inv.fail (.inl rfl) (by simp)⟩
    · by_cases hx0 : x = 0
      · subst hx0
        go_wp2_with (first | (go_at_call 84; refine (next_any wr B K _ HP.out.src).mono ?_; rintro e w1 ⟨rfl, hs1, ho1⟩; have S1 := Lib.hid (And.intro hs1 ho1); clear hs1 ho1; simp only [List.headD_cons]))
        go_ret2
        exact ⟨a, c, ts, _, _, rfl, HP.out.own.keep S1.out.2 (by have := HP.out.size; simp; omega) (Nat.le_refl _), S1.out.1, HP.out.only.trans S1.out.2, HP.out.inv.done⟩
      · by_cases hx1 : x = 1
        · subst hx1
          have HV := Lib.hid (IH.out R1 (by simp at hlen; omega))
          go_wp2_with (first
            | (go_at_call 84; refine (next_any wr B K _ HP.out.src).mono ?_; rintro e w1 ⟨rfl, hs1, ho1⟩; have S1 := Lib.hid (And.intro hs1 ho1); clear hs1 ho1; simp only [List.headD_cons])
            | (go_at_call 85; refine (HV.out w1 B K S1.out.1).mono ?_; rintro e w2 ⟨⟨ky, ny, sy, lay, lcy, ly, day, dcy, dy⟩, ok, R2, rfl, hy, hs2, ho2, hv⟩; dsimp only [T.arg, T.cells]; have S2 := Lib.hid (And.intro hs2 (And.intro ho2 (And.intro hy hv))); clear hs2 ho2 hy hv; rcases ok with _ | _)
            | (at_builtin; refine wpList_append_lies _ rfl (.tmp 24) (.tmp 26) 22 rfl w.heap.size 25 i0 _ 5 80 Tryd.underlying22 I0.out.1 I0.out.2.1 I0.out.2.2.1 I0.out.2.2.2 rfl (by decide) _ ts.length (ts.flatMap T.cells) rfl (HP.out.row ((S1.out.2.trans S2.out.2.1).trans (Only.of_below (below2 _ _ _)))) ⟨w2.heap.size + 1, 0, none⟩ 1 1 [.int .i64 ky, .int .i64 ny, .string sy, .slice lay ly.length lcy, .slice day dy.length dcy] rfl rfl (news_at _ _ _ _ (by simp)) (by simp [Value.oneCell']) (by omega) (by unfold maxLen; simp at hlen; omega) (by simp at hlen; omega) (Nat.le_trans (Nat.le_trans HP.out.only.size S1.out.2.size) (Nat.le_trans S2.out.2.1.size (below2 _ _ _).size)) _ rfl ?_; intro g cap w3 hrow hgrow hat _; have G3 := Lib.hid (HP.out.step S1.out.2 S2.out.2.2.1 S2.out.2.1 S2.out.1 S2.out.2.2.2 hrow hgrow hat); clear hrow hgrow hat))
          · go_ret2
            exact ⟨none, 0, [], _, _, rfl, holdL_start _ _, S2.out.1.then_ (below1 _ _), ((HP.out.only.trans S1.out.2).trans S2.out.2.1).trans (Only.of_below (below1 _ _)), HP.out.inv.stop S2.out.2.2.2⟩
          · go_roundw
            case rel => exact ⟨_, _, _, _, by rw [List.length_append]; rfl, G3.out⟩
            case measure => rw [G3.out.src.left, HP.out.src.left]; have := S2.out.2.2.2.2.2; simp at this ⊢; omega
        · have hy3 : ((x : Int) == 0) = false := by simp [hx0]
          have hy4 : ((x : Int) == 1) = false := by simp [hx1]
          have HN := Lib.hid (And.intro hx0 hx1)
          clear hx0 hx1
          go_wp2_with (first | (go_at_call 84; refine (next_any wr B K _ HP.out.src).mono ?_; rintro e w1 ⟨rfl, hs1, ho1⟩; have S1 := Lib.hid (And.intro hs1 ho1); clear hs1 ho1; simp only [List.headD_cons]))
          go_ret2
          exact ⟨none, 0, [], _, _, rfl, holdL_start _ _, S1.out.1, HP.out.only.trans S1.out.2, HP.out.inv.fail (.inr ⟨x, R1, rfl, HN.out.1, HN.out.2⟩) (by simp)⟩

/-- Fields. -/
def FRel (R : List Int) (f : ByteArray) (v : V) (ok : Bool) (R' : List Int) : Prop := (ok = true → v.shape = true → R = keyT (bsI f) ++ (keyV v ++ R')) ∧ (∀ f' v' Q, v'.shape = true → v'.fit → R = keyT (bsI f') ++ (keyV v' ++ Q) → ok = true ∧ f = f' ∧ v = v' ∧ R' = Q) ∧ R'.length ≤ R.length
def ReadsF (R : List Int) (B : Nat) (K : Ctx) (w : World) (e : Ending) (w' : World) : Prop := ∃ (f : ByteArray) (t : T) (ok : Bool) (R' : List Int), e = .returned (.tuple #[farg (f, t), .bool ok]) ∧ okLen f.size ∧ t.Own w' w.heap.size ∧ Src w' B K R' ∧ Only [B + 1] w w' ∧ FRel R f t.val ok R'
def FAt (R : List Int) : Prop := ∀ (w : World) (B : Nat) (K : Ctx), Src w B K R → Calls Tryd.prog 115 #[nextF B] w (ReadsF R B K w)
def DRel (R : List Int) (l : List (ByteArray × V)) (ok : Bool) (R' : List Int) : Prop := (ok = true → (∀ x ∈ l, x.2.shape = true) → R = keyD l ++ R') ∧ (∀ l' Q, (∀ x ∈ l', x.2.shape = true ∧ x.2.fit) → R = keyD l' ++ Q → ok = true ∧ l = l' ∧ R' = Q) ∧ R'.length ≤ R.length
structure DInv (R : List Int) (acc : List (ByteArray × V)) (Rk : List Int) : Prop where
  eq : (∀ x ∈ acc, x.2.shape = true) → R = pD acc ++ Rk
  all : ∀ l' Q, (∀ x ∈ l', x.2.shape = true ∧ x.2.fit) → R = keyD l' ++ Q → ∃ l'', l' = acc ++ l'' ∧ Rk = keyD l'' ++ Q
  len : acc.length + Rk.length ≤ R.length
theorem DInv.start (R : List Int) : DInv R [] R := ⟨fun _ => rfl, fun l' Q _ h => ⟨l', rfl, h⟩, by simp⟩
theorem DInv.more {R : List Int} {acc : List (ByteArray × V)} {R1 R2 : List Int} {f : ByteArray} {x : V} (h : DInv R acc (1 :: R1)) (k : FRel R1 f x true R2) : DInv R (acc ++ [(f, x)]) R2 := by
  refine ⟨fun hs => ?_, fun l' Q hg e => ?_, ?_⟩
  · rw [h.eq (fun y hy => hs y (by simp [hy])), k.1 rfl (hs (f, x) (by simp)), pD, pD, List.flatMap_append]; simp
  · obtain ⟨l'', rfl, e2⟩ := h.all l' Q hg e
    cases l'' with
    | nil => simp [keyD] at e2
    | cons y r =>
      obtain ⟨f', y⟩ := y
      rw [keyD] at e2
      simp only [List.cons_append, List.cons.injEq, true_and, List.append_assoc] at e2
      obtain ⟨-, rfl, rfl, rfl⟩ := k.2.1 f' y _ (hg (f', y) (by simp)).1 (hg (f', y) (by simp)).2 e2
      exact ⟨r, by simp, rfl⟩
  · have := h.len; have := k.2.2; simp at *; omega
theorem DInv.stop {R : List Int} {acc : List (ByteArray × V)} {R1 R2 : List Int} {f : ByteArray} {x : V} (h : DInv R acc (1 :: R1)) (k : FRel R1 f x false R2) : DRel R [] false R2 := by
  refine ⟨fun h => (by cases h), fun l' Q hg e => ?_, by have := h.len; have := k.2.2; simp at *; omega⟩
  obtain ⟨l'', rfl, e2⟩ := h.all l' Q hg e
  cases l'' with
  | nil => simp [keyD] at e2
  | cons y r =>
    obtain ⟨f', y⟩ := y
    rw [keyD] at e2
    simp only [List.cons_append, List.cons.injEq, true_and, List.append_assoc] at e2
    have := (k.2.1 f' y _ (hg (f', y) (by simp)).1 (hg (f', y) (by simp)).2 e2).1
    cases this
theorem DInv.done {R : List Int} {acc : List (ByteArray × V)} {R1 : List Int} (h : DInv R acc (0 :: R1)) : DRel R acc true R1 := by
  refine ⟨fun _ hs => by rw [h.eq hs, keyD_eq]; simp, fun l' Q hg e => ?_, by have := h.len; simp at *; omega⟩
  obtain ⟨l'', rfl, e2⟩ := h.all l' Q hg e
  cases l'' with
  | nil => simp [keyD] at e2; exact ⟨rfl, by simp, e2⟩
  | cons y r => obtain ⟨f', y⟩ := y; simp [keyD] at e2
theorem DInv.fail {R : List Int} {acc : List (ByteArray × V)} {Rk R' : List Int} (h : DInv R acc Rk) (hk : Rk = [] ∨ ∃ y r, Rk = y :: r ∧ y ≠ 0 ∧ y ≠ 1) (hl : R'.length ≤ Rk.length) : DRel R [] false R' := by
  refine ⟨fun h => (by cases h), fun l' Q hg e => ?_, by have := h.len; omega⟩
  obtain ⟨l'', rfl, e2⟩ := h.all l' Q hg e
  exfalso
  rcases hk with rfl | ⟨y, r, rfl, h0, h1⟩
  · cases l'' with
    | nil => simp [keyD] at e2
    | cons z q => obtain ⟨f', z⟩ := z; simp [keyD] at e2
  · cases l'' with
    | nil => simp [keyD] at e2; omega
    | cons z q => obtain ⟨f', z⟩ := z; simp [keyD] at e2; omega
def holdD (a : Option Addr) (c : Nat) (fs : List (ByteArray × T)) : T := .mk 5 0 ⟨#[]⟩ none 0 [] a c fs
theorem holdD_start (w : World) (B : Nat) : (holdD none 0 []).Own w B := by
  refine ⟨by simp [holdD, T.ok, T.okL, T.okD, okInt, okLen, okFar, ByteArray.size], fun r hr => ?_, by simp [holdD, T.rows, T.rowsL, T.rowsD, blocksOf, Value.ownBlock]⟩
  simp [holdD, T.rows, T.rowsL, T.rowsD] at hr
  rcases hr with rfl | rfl <;> exact World.ownsRow_nil _ _ _ _
def ReadsD (R : List Int) (B : Nat) (K : Ctx) (w : World) (e : Ending) (w' : World) : Prop := ∃ a c fs ok R', e = .returned (.tuple #[.slice a fs.length c, .bool ok]) ∧ (holdD a c fs).Own w' w.heap.size ∧ Src w' B K R' ∧ Only [B + 1] w w' ∧ DRel R (fs.map fun f => (f.1, f.2.val)) ok R'
structure DocAt (w wr : World) (B : Nat) (K : Ctx) (R : List Int) (a : Option Addr) (c : Nat) (fs : List (ByteArray × T)) (Rk : List Int) : Prop where
  own : (holdD a c fs).Own wr w.heap.size
  src : Src wr B K Rk
  only : Only [B + 1] w wr
  inv : DInv R (fs.map fun f => (f.1, f.2.val)) Rk
  size : B + 3 ≤ w.heap.size
  room : R.length ≤ 1000
theorem DocAt.row {w wr wX : World} {B : Nat} {K : Ctx} {R Rk : List Int} {a : Option Addr} {c : Nat} {fs : List (ByteArray × T)} (h : DocAt w wr B K R a c fs Rk) (ho : Only [B + 1] wr wX) : wX.ownsRow w.heap.size 62 6 (.slice a fs.length c) fs.length (fs.flatMap fcells) :=
  own_rowD (h.own.keep ho (by have := h.size; simp; omega) (Nat.le_refl _))
theorem DocAt.step {w wr w1 w2 w3 : World} {X Y : Obj} {B : Nat} {K : Ctx} {R R1 R2 : List Int} {a : Option Addr} {c : Nat} {fs : List (ByteArray × T)} {f : ByteArray} {y : T} {g cap : Nat} (h : DocAt w wr B K R a c fs (1 :: R1)) (ho : Only [B + 1] wr w1) (hf : okLen f.size) (hy : y.Own w2 w1.heap.size) (ho2 : Only [B + 1] w1 w2) (hs : Src w2 B K R2) (hv : FRel R1 f y.val true R2)
    (hrow : w3.ownsRow w.heap.size 62 6 (.slice (some ⟨g, 0, none⟩) (fs.length + 1) cap) (fs.length + 1) (fs.flatMap fcells ++ fcells (f, y))) (hg : ((w2.alloc X).alloc Y).grownBy w3 (Value.slice a fs.length c).ownBlock) (hat : (Value.slice a fs.length c).ownBlock = some g ∨ g = ((w2.alloc X).alloc Y).heap.size) :
    DocAt w w3 B K R (some ⟨g, 0, none⟩) cap (fs ++ [(f, y)]) R2 := by
  have hX : Below w2.heap.size w2 ((w2.alloc X).alloc Y) := below2 _ _ _
  have oX : Only [B + 1] wr ((w2.alloc X).alloc Y) := (ho.trans ho2).trans (Only.of_below hX)
  have hbase : ∀ b ∈ [B + 1], b < w.heap.size := by have := h.size; simp; omega
  obtain ⟨wm, hsz, om, bm⟩ := only_split oX
  have hlen := h.inv.len
  have hroom := h.room
  simp only [List.length_map, List.length_cons] at hlen
  have hblk : ∀ b, (Value.slice a fs.length c).ownBlock = some b → w.heap.size ≤ b := fun b hb => ((h.row oX).lt b hb).1
  have hown := own_addD (h.own.keep om hbase (Nat.le_refl _)) (hy.keep (Only.of_below (S := []) hX) (by simp) (Nat.le_refl _)) bm (by rw [hsz]; exact ho.size) (Nat.le_trans h.only.size ho.size) hf (by unfold okFar; omega) (cap_of hrow) hrow hg (hat.imp id (fun e => by omega))
  have o3 : Only (Value.slice a fs.length c).ownBlock.toList ((w2.alloc X).alloc Y) w3 := only_grow hg
  refine ⟨hown, (hs.then_ hX).only o3 (fun b hb => ?_), (h.only.trans oX).then_ o3 (fun b hb => .inr (hblk b (by simpa using hb))), ?_, h.size, h.room⟩
  · have := hblk b (by simpa using hb); have := h.size; omega
  · rw [List.map_append]; exact h.inv.more hv

set_option maxHeartbeats 4000000 in
theorem readDoc_any (R : List Int) (ih : ∀ R1 : List Int, R1.length < R.length → FAt R1) (w : World) (B : Nat) (K : Ctx) (h : Src w B K R) :
    Calls Tryd.prog 114 #[nextF B, .func (.func 115) #[] #[]] w (ReadsD R B K w) := by
  show Calls _ _ #[.func (.func 84) #[] #[.pointer (some ⟨B + 1, 0, none⟩), .pointer (some ⟨B, 0, none⟩), .pointer (some ⟨B + 2, 0, none⟩)], .func (.func 115) #[] #[]] _ _
  obtain ⟨i0, hi0, hz0, hz1, hz2⟩ := info_parts info_field
  have I0 := Lib.hid (And.intro hi0 (And.intro hz0 (And.intro hz1 hz2)))
  clear hi0 hz0 hz1 hz2
  have hr : R.length ≤ 1000 := by obtain ⟨i, h, rfl⟩ := h; have := h.room; rw [List.length_drop, tf_len]; omega
  have HS := Lib.hid (show DocAt w w B K R none 0 [] R from ⟨holdD_start _ _, h, Only.refl _ _, DInv.start R, h.size, hr⟩)
  have IH := Lib.hid ih
  clear h ih
  go_enter Tryd.func114, Tryd.ntmps114
  go_wp2_with fail
  go_loopw [6] (fun u wr => ∃ a c fs Rk, u = .slice a fs.length c ∧ DocAt w wr B K R a c fs Rk) (fun _ wr => leftOf wr B K.bs.length)
  case atStart => exact ⟨none, 0, [], R, rfl, HS.out⟩
  case round =>
    obtain ⟨a, c, fs, Rk, rfl, hP⟩ := hrel
    have HP := Lib.hid hP
    have hlen := hP.inv.len
    simp only [List.length_map] at hlen
    clear hP
    rcases Rk with _ | ⟨x, R1⟩
    · go_wp2_with (first | (go_at_call 84; refine (next_any wr B K _ HP.out.src).mono ?_; rintro e w1 ⟨rfl, hs1, ho1⟩; have S1 := Lib.hid (And.intro hs1 ho1); clear hs1 ho1; simp only [List.headD_nil]))
      go_ret2
      exact ⟨none, 0, [], _, _, rfl, holdD_start _ _, S1.out.1, HP.out.only.trans S1.out.2, HP.out.inv.fail (.inl rfl) (by simp)⟩
    · by_cases hx0 : x = 0
      · subst hx0
        go_wp2_with (first | (go_at_call 84; refine (next_any wr B K _ HP.out.src).mono ?_; rintro e w1 ⟨rfl, hs1, ho1⟩; have S1 := Lib.hid (And.intro hs1 ho1); clear hs1 ho1; simp only [List.headD_cons]))
        go_ret2
        exact ⟨a, c, fs, _, _, rfl, HP.out.own.keep S1.out.2 (by have := HP.out.size; simp; omega) (Nat.le_refl _), S1.out.1, HP.out.only.trans S1.out.2, HP.out.inv.done⟩
      · by_cases hx1 : x = 1
        · subst hx1
          have HV := Lib.hid (IH.out R1 (by simp at hlen; omega))
          go_wp2_with (first
            | (go_at_call 84; refine (next_any wr B K _ HP.out.src).mono ?_; rintro e w1 ⟨rfl, hs1, ho1⟩; have S1 := Lib.hid (And.intro hs1 ho1); clear hs1 ho1; simp only [List.headD_cons])
            | (go_at_call 115; refine (HV.out w1 B K S1.out.1).mono ?_; rintro e w2 ⟨fy, ⟨ky, ny, sy, lay, lcy, ly, day, dcy, dy⟩, ok, R2, rfl, hf, hy, hs2, ho2, hv⟩; dsimp only [farg, fcells, T.cells]; have S2 := Lib.hid (And.intro hs2 (And.intro ho2 (And.intro hy (And.intro hf hv)))); clear hs2 ho2 hy hf hv; rcases ok with _ | _)
            | (at_builtin; refine wpList_append_lies _ rfl (.tmp 24) (.tmp 26) 23 rfl w.heap.size 62 i0 _ 6 96 Tryd.underlying23 I0.out.1 I0.out.2.1 I0.out.2.2.1 I0.out.2.2.2 rfl (by decide) _ fs.length (fs.flatMap fcells) rfl (HP.out.row ((S1.out.2.trans S2.out.2.1).trans (Only.of_below (below2 _ _ _)))) ⟨w2.heap.size + 1, 0, none⟩ 1 1 [.string fy, .int .i64 ky, .int .i64 ny, .string sy, .slice lay ly.length lcy, .slice day dy.length dcy] rfl rfl (news_at _ _ _ _ (by simp)) (by simp [Value.oneCell']) (by omega) (by unfold maxLen; simp at hlen; omega) (by simp at hlen; omega) (Nat.le_trans (Nat.le_trans HP.out.only.size S1.out.2.size) (Nat.le_trans S2.out.2.1.size (below2 _ _ _).size)) _ rfl ?_; intro g cap w3 hrow hgrow hat _; have G3 := Lib.hid (HP.out.step S1.out.2 S2.out.2.2.2.1 S2.out.2.2.1 S2.out.2.1 S2.out.1 S2.out.2.2.2.2 hrow hgrow hat); clear hrow hgrow hat))
          · go_ret2
            exact ⟨none, 0, [], _, _, rfl, holdD_start _ _, S2.out.1.then_ (below1 _ _), ((HP.out.only.trans S1.out.2).trans S2.out.2.1).trans (Only.of_below (below1 _ _)), HP.out.inv.stop S2.out.2.2.2.2⟩
          · go_roundw
            case rel => exact ⟨_, _, _, _, by rw [List.length_append]; rfl, G3.out⟩
            case measure => rw [G3.out.src.left, HP.out.src.left]; have := S2.out.2.2.2.2.2.2; simp at this ⊢; omega
        · have hy3 : ((x : Int) == 0) = false := by simp [hx0]
          have hy4 : ((x : Int) == 1) = false := by simp [hx1]
          have HN := Lib.hid (And.intro hx0 hx1)
          clear hx0 hx1
          go_wp2_with (first | (go_at_call 84; refine (next_any wr B K _ HP.out.src).mono ?_; rintro e w1 ⟨rfl, hs1, ho1⟩; have S1 := Lib.hid (And.intro hs1 ho1); clear hs1 ho1; simp only [List.headD_cons]))
          go_ret2
          exact ⟨none, 0, [], _, _, rfl, holdD_start _ _, S1.out.1, HP.out.only.trans S1.out.2, HP.out.inv.fail (.inr ⟨x, R1, rfl, HN.out.1, HN.out.2⟩) (by simp)⟩
end Go.Proofs.YtdlgngnibbaamaaDoor
