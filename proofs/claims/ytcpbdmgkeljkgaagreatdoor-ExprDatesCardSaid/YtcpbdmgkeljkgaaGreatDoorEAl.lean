/- What the worker makes of several nodes that don't fail. No statement is proved here. -/
import Derived.Test.YtcpbdmgkeljkgaaGreatDoorENo
namespace Go.Proofs.YtcpbdmgkeljkgaaGreatDoor
open Go.RowKit
set_option maxRecDepth 100000

/-- Nodes one behind another, none of which fails: each has its steps, and what is said of its value. -/
structure Nod where
  u : TypeId
  x : Value
  k : Nat
  R : T → Prop
def Nod.cell (a : Nod) : Value := .iface a.u a.x
def stepsN : List Nod → Nat
  | [] => 0
  | a :: r => a.k + 1 + stepsN r
theorem stepsN_append (a b : List Nod) : stepsN (a ++ b) = stepsN a + stepsN b := by
  induction a with
  | nil => simp [stepsN]
  | cons x r ih => simp only [List.cons_append, stepsN, ih]; omega
theorem stepsN_take {l : List Nod} {k : Nat} {a : Nod} (h : l[k]? = some a) : stepsN (l.take (k + 1)) = stepsN (l.take k) + (a.k + 1) := by
  rw [List.take_add_one, h, Option.toList_some, stepsN_append]
  simp [stepsN]
theorem stepsN_le (l : List Nod) (k : Nat) : stepsN (l.take k) ≤ stepsN l := by
  conv => rhs; rw [← List.take_append_drop k l, stepsN_append]
  omega
/-- The values so far, in a row of the call's own. -/
structure AllR (l : List Nod) (W w : World) (g gb n gr : Nat) (wr : World) (k : Nat) (rs : List T) : Prop where
  len : rs.length = k
  val : ∀ (i : Nat) (r : T) (a : Nod), rs[i]? = some r → l[i]? = some a → a.R r
  ok : ∀ r ∈ rs, r.ok
  ins : ∀ r ∈ rs, r.In wr ∧ ∀ p ∈ r.places, p.1.block < W.heap.size ∨ w.heap.size < p.1.block
  row : wr.ownsRow w.heap.size 28 5 (.slice (some ⟨w.heap.size, 0, none⟩) k l.length) k (rs.flatMap T.cells)
  only : Only [g] w wr
  steps : wr.heap[g]? = some (wkRow gb (n + stepsN (l.take k)))
  size : w.heap.size + 1 ≤ wr.heap.size
theorem put_onlyA (g : Nat) (vs : List Value) : ∀ (w : World) (o : Nat), Only [g] w (putCells w g o vs) := by
  induction vs with
  | nil => intro w o; exact Only.refl _ _
  | cons v r ih => intro w o; exact ((Only.refl [g] w).setCell (p := ⟨g, o, none⟩) (.inl (by simp)) v).trans (ih _ _)
theorem row_onlyG {w w' : World} {B : Nat} {e : TypeId} {c n m g b : Nat} {xs : List Value} (h : w.ownsRow B e c (.slice (some ⟨b, 0, none⟩) n m) n xs) (ho : Only [g] w w') (hne : b ≠ g) : w'.ownsRow B e c (.slice (some ⟨b, 0, none⟩) n m) n xs := by
  have h1 : Owns w B [⟨e, c, .slice (some ⟨b, 0, none⟩) n m, n, xs⟩] := fun r hr => by rw [List.mem_singleton.1 hr]; exact h
  refine (h1.only ho (fun x hx hs => ?_)).head
  simp [blocksOf, Value.ownBlock] at hx hs
  exact hne (hx.symm.trans hs)
theorem below_onlyG {n g : Nat} {a b c : World} (h : Below n a b) (ho : Only [g] b c) (hg : n ≤ g) (hn : n ≤ b.heap.size) : Below n a c :=
  ⟨ho.os.trans h.os, ho.tape.trans h.tape, ho.output.trans h.output, Nat.le_trans h.size ho.size, fun k hk => (ho.block k (by omega) (by simp; omega)).trans (h.block k hk)⟩
theorem all_step {l : List Nod} {W w wr w1 : World} {g gb n k : Nat} {rs : List T} {a : Nod} {r : T} {o : Obj} (hR : AllR l W w g gb n w.heap.size wr k rs) (hg : W.heap.size ≤ g) (hgw : g < w.heap.size) (h1 : k < l.length) (ha : l[k]? = some a) (hv : a.R r) (hok : r.ok) (hin : r.In w1)
    (hout : ∀ p ∈ r.places, p.1.block < W.heap.size ∨ wr.heap.size ≤ p.1.block) (ho : Only [g] wr w1) (hs : w1.heap[g]? = some (wkRow gb (n + stepsN (l.take k) + (a.k + 1)))) :
    AllR l W w g gb n w.heap.size (putCells (w1.alloc o) w.heap.size (k * 5) r.cells) (k + 1) (rs ++ [r]) := by
  have hz := hR.size
  have hz1 := ho.size
  have hp := put_onlyA w.heap.size r.cells (w1.alloc o) (k * 5)
  have keep : ∀ t : T, t.In w1 → (∀ p ∈ t.places, p.1.block < W.heap.size ∨ w.heap.size < p.1.block) → t.In (putCells (w1.alloc o) w.heap.size (k * 5) r.cells) := fun t h hq =>
    (h.then_ (below1 _ o)).onlyG hp (fun p hp => by rcases hq p hp with h | h <;> omega)
  have hout' : ∀ p ∈ r.places, p.1.block < W.heap.size ∨ w.heap.size < p.1.block := fun p hp => (hout p hp).imp id (fun h => by omega)
  refine ⟨by simp [hR.len], ?_, ?_, ?_, ?_, ?_, ?_, ?_⟩
  · intro i r' a' hr' ha'
    rcases Nat.lt_or_ge i rs.length with hi | hi
    · rw [List.getElem?_append_left hi] at hr'
      exact hR.val i r' a' hr' ha'
    · rw [List.getElem?_append_right hi] at hr'
      have hi2 : i - rs.length = 0 := by
        have := (List.getElem?_eq_some_iff.1 hr').1
        simp at this
        omega
      rw [hi2] at hr'
      have hik : i = k := by have := hR.len; omega
      subst hik
      rw [ha] at ha'
      simp at hr' ha'
      rw [← hr', ← ha']
      exact hv
  · intro t ht
    rcases List.mem_append.1 ht with ht | ht
    · exact hR.ok t ht
    · simp at ht; subst ht; exact hok
  · intro t ht
    rcases List.mem_append.1 ht with ht | ht
    · obtain ⟨i1, i2⟩ := hR.ins t ht
      exact ⟨keep t (i1.onlyG ho (fun p hp => by rcases i2 p hp with h | h <;> omega)) i2, i2⟩
    · simp at ht; subst ht; exact ⟨keep t hin hout', hout'⟩
  · have := own_put (row_keep (row_onlyG hR.row ho (by omega)) (below1 w1 o)) h1 r.cells (cells_len _)
    simpa using this
  · exact ((hR.only.trans ho).alloc o).then_ hp (fun i hi => .inr (by simp at hi; omega))
  · rw [hp.block g (by simp; omega) (by simp; omega), stepsN_take ha, ← Nat.add_assoc]
    exact row_then hs (below1 _ _)
  · exact Nat.le_trans (by simp; omega) hp.size
set_option maxHeartbeats 2000000 in
theorem evalAll_any {W : World} {d : T} (l : List Nod) (hl0 : 1 ≤ l.length) (hl : l.length ≤ 1000) (H : ∀ a ∈ l, Ev W d a.u a.x a.k a.R 0) (ga c : Nat) (hrow : ∀ (i : Nat) (a : Nod), l[i]? = some a → W.cell? ⟨ga, i, none⟩ = some a.cell)
    (w : World) (g gb n : Nat) (hb : Below W.heap.size W w) (hg : W.heap.size ≤ g) (hw : WkAt w g gb d n) (hn : n + stepsN l ≤ 20000) :
    Calls Tryz.prog 280 #[.pointer (some ⟨g, 0, none⟩), .slice (some ⟨ga, 0, none⟩) l.length c] w fun e w' => ∃ rs, e = .returned (.tuple #[.slice (some ⟨w.heap.size, 0, none⟩) l.length l.length, .int .i64 0]) ∧ AllR l W w g gb n w.heap.size w' l.length rs := by
  obtain ⟨cur, hcur, hmk⟩ := make_any (P := Tryz.prog) 25 28 _ 5 80 Tryz.underlying25 info_value l.length l.length (Nat.le_refl _) (by omega) (by omega)
  have HC := Lib.hid hcur
  clear hcur
  go_enter Tryz.func280, Tryz.ntmps280
  go_wp2_with fail
  go_loopw [7, 8, 9, 10, 16] (fun _ _ _ _ i wr => ∃ (k : Nat) (rs : List T), k ≤ l.length ∧ i = .int .i64 k ∧ AllR l W w g gb n w.heap.size wr k rs) (fun _ _ _ _ i _ => l.length - (intOf i).toNat)
  case atStart =>
    exact ⟨0, [], by omega, rfl, rfl, by simp, by simp, by simp, by simpa using own_start cur (Nat.le_refl _) (by unfold maxLen; omega) HC.out, (Only.refl _ w).alloc _, row_then hw.row (below1 _ _), by simp⟩
  case round =>
    obtain ⟨k, rs, hk, rfl, hR⟩ := hrel
    have HR := Lib.hid hR
    have hsz := hR.size
    have hrow1 := hR.row
    have cA := fun (a : Nod) (h : l[k]? = some a) => cell_onlyG ((hb.cell (World.block_lt_of_cell? W _ (hrow k a h))).trans (hrow k a h)) hR.only (by have := World.block_lt_of_cell? W _ (hrow k a h); simp at this ⊢; omega)
    clear hR
    by_cases h1 : k < l.length
    · obtain ⟨a, ha⟩ : ∃ a, l[k]? = some a := ⟨_, List.getElem?_eq_getElem h1⟩
      have cN := cA a ha
      unfold Nod.cell at cN
      have hgw := lt_of_block hw.row
      have hst := stepsN_take ha
      have hle := stepsN_le l (k + 1)
      have HE := Lib.hid (eval_any (H a (List.mem_of_getElem? ha)) wr g gb _ (below_onlyG hb HR.out.only hg hb.size) hg (hw.then_ HR.out.only HR.out.steps) (by omega))
      have HA := Lib.hid (And.intro ha hgw)
      clear H hmk hrow cA hb hw hn hst hle hl0 HC ha hgw
      go_wp2_with fail
      refine HE.out.mono ?_
      rintro e w1 ⟨⟨rk, rm, rs', rla, rlc, rl, rda, rdc, rf⟩, rfl, hv, hok, hin, hout, ho, hrow'⟩
      dsimp only [T.arg, T.cells]
      have HX := Lib.hid (And.intro hv (And.intro hok (And.intro hin (And.intro hout (And.intro ho hrow')))))
      have hne : w.heap.size ≠ g := by have := HA.out.2; omega
      have hrow2 := row_keep (row_onlyG hrow1 ho hne) (below1 w1 (.cells #[.int .i64 rk, .int .i64 rm, .string rs', .slice rla rl.length rlc, .slice rda rf.length rdc] 28))
      have hz1 := ho.size
      have hne2 : w.heap.size ≠ w1.heap.size := by omega
      clear hv hok hin hout ho hrow' hrow1 HE
      obtain ⟨v0, v1, v2, v3, v4, c0, c1, c2, c3, c4, f0, f1, f2, f3, f4⟩ := own_room5 hrow2 h1
      clear hrow2
      go_wp2_with fail
      obtain ⟨hv, hok, hin, hout, ho, hrow'⟩ := HX.out
      have HS := all_step (o := .cells #[.int .i64 rk, .int .i64 rm, .string rs', .slice rla rl.length rlc, .slice rda rf.length rdc] 28 (0, 0)) HR.out hg HA.out.2 h1 HA.out.1 hv hok hin hout ho hrow'
      rw [T.cells, put5] at HS
      go_roundw
      case rel => exact ⟨k + 1, _, by omega, by go_num, HS⟩
      case measure => simp [intOf]; omega
    · have hkl : k = l.length := by omega
      subst hkl
      go_wp2_with fail
      go_ret2
      exact ⟨rs, rfl, HR.out⟩
end Go.Proofs.YtcpbdmgkeljkgaaGreatDoor
