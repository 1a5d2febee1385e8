/- The program's own Number: its contract. The program's own Read: its contract. A row of bytes that a call has made itself, written into by 'copy' and by cells. No statement is proved here. -/
import Derived.Test.YtophhnolnlbecaaDoorQ15
import Derived.Test.YtophhnolnlbecaaDoorQ1
import Derived.Test.YtophhnolnlbecaaDoorQ4
import Derived.Test.YtophhnolnlbecaaDoorQ5
import Derived.Laws.CopyOwn
namespace Go.Proofs.YtophhnolnlbecaaDoor
open Go.RowKit
set_option maxRecDepth 100000

/-- The row so far: the lowest bytes, and what was there. -/
def FilledV (m : Int) (k s : Nat) (xs : List Value) : Prop := ∃ rest, rest.length + k = s ∧ xs = btV (leB k m) ++ rest
theorem FilledV.next {m : Int} {k s : Nat} {xs : List Value} (h : FilledV m k s xs) (hk : k < s) : FilledV m (k + 1) s (xs.set k (.int .u8 (m / 256 ^ k % 256))) := by
  obtain ⟨rest, hr, rfl⟩ := h
  cases rest with
  | nil => simp at hr; omega
  | cons y rest =>
    refine ⟨rest, by simp at hr; omega, ?_⟩
    have e : (btV (leB k m)).length = k := by rw [btV_len, leB_len]
    rw [List.set_append_right _ _ (by omega), e, Nat.sub_self, List.set_cons_zero, leB_snoc, btV_append, List.append_assoc]
    rfl
theorem FilledV.all {m : Int} {s : Nat} {xs : List Value} (h : FilledV m s s xs) : xs = btV (leB s m) := by
  obtain ⟨rest, hr, rfl⟩ := h
  have : rest = [] := List.eq_nil_of_length_eq_zero (by omega)
  subst this
  rw [List.append_nil]
theorem FilledV.len {m : Int} {k s : Nat} {xs : List Value} (h : FilledV m k s xs) : xs.length = s := by
  obtain ⟨rest, hr, rfl⟩ := h
  rw [List.length_append, btV_len, leB_len]; omega
theorem isSize_any (s : Int) (w : World) : Calls Tryd.prog 77 #[.int .i64 s] w fun e w' => e = .returned (.bool (decide (1 ≤ s ∧ s ≤ 8))) ∧ w = w' := by
  by_cases h1 : 1 ≤ s
  · by_cases h2 : s ≤ 8
    · rw [decide_eq_true (show 1 ≤ s ∧ s ≤ 8 from ⟨h1, h2⟩)]
      go_enter Tryd.func77, Tryd.ntmps77
      go_wp2
      go_ret
      exact ⟨rfl, rfl⟩
    · rw [decide_eq_false (show ¬ (1 ≤ s ∧ s ≤ 8) by omega)]
      go_enter Tryd.func77, Tryd.ntmps77
      go_wp2
      go_ret
      exact ⟨rfl, rfl⟩
  · rw [decide_eq_false (show ¬ (1 ≤ s ∧ s ≤ 8) by omega)]
    go_enter Tryd.func77, Tryd.ntmps77
    go_wp2
    go_ret
    exact ⟨rfl, rfl⟩
theorem pow8 (k : Nat) : (2 : Int) ^ (8 * k) = 256 ^ k := by rw [Int.pow_mul]; rfl
set_option maxHeartbeats 2000000 in
theorem pnumber_any (n size : Int) (hn : okInt n) (hs : okInt size) (w : World) : Calls Tryd.prog 61 #[.int .i64 n, .int .i64 size] w (NumTo n size w) := by
  have HS := Lib.hid (isSize_any size)
  unfold okInt at hn hs
  by_cases h1 : 1 ≤ size ∧ size ≤ 8
  · rw [decide_eq_true h1] at HS
    by_cases h3 : n < 0
    · have hk : okN n size = false := decide_eq_false (by omega)
      have HE : NumTo n size w (.returned (.tuple #[.slice none 0 0, .int .i64 1])) w := ⟨_, by rw [numE, hk]; rfl, by rw [numL, hk]; exact OwnB.nil _ _, Below.refl _ _⟩
      clear hk
      have HE := Lib.hid HE
      go_enter Tryd.func61, Tryd.ntmps61
      go_wp2_with (go_at_call 77; refine (HS.out _).mono ?_; rintro e w' ⟨rfl, rfl⟩)
      go_ret2
      exact HE.out
    · obtain ⟨s, rfl⟩ := Int.eq_ofNat_of_zero_le (show 0 ≤ size by omega)
      obtain ⟨m, rfl⟩ := Int.eq_ofNat_of_zero_le (show 0 ≤ n by omega)
      have hs1 : 1 ≤ s := by omega
      have hs8 : s ≤ 8 := by omega
      have hd : decide ((m : Int) < 0) = false := decide_eq_false (by omega)
      by_cases hz : (m : Int) / 2 ^ (8 * s) = 0
      · have hz' : ((m : Int) / 2 ^ (8 * s) != 0) = false := by rw [hz]; rfl
        have hkk : okN m s = true := decide_eq_true (by rw [Int.toNat_natCast, ← pow8, hz]; omega)
        have HE : Hid (numL m s = leB s m ∧ numE m s = 0) := Lib.hid ⟨by rw [numL, hkk]; rfl, by rw [numE, hkk]; rfl⟩
        obtain ⟨cur, hcur, hmk⟩ := make_any (P := Tryd.prog) 22 5 _ 1 1 Tryd.underlying22 info_byte s s (by omega) (by omega) (by omega)
        obtain ⟨cl, hcl⟩ : ∃ cl : List Value, cur = cl.toArray := ⟨cur.toList, by simp⟩
        subst hcl
        have hcs : cl.length = s := by simpa using hcur
        have hm0 : FilledV m 0 s cl := ⟨cl, by omega, rfl⟩
        have own0 : (w.alloc (.cells cl.toArray 5)).ownsRow w.heap.size 5 1 (.slice (some ⟨w.heap.size, 0, none⟩) s s) s cl :=
          ⟨by omega, .inr ⟨w.heap.size, s, _, rfl, Nat.le_refl _, heap_alloc_new w _, Nat.le_refl _, by unfold maxLen; omega, by simp [hcs], by rw [List.take_of_length_le (by simp [hcs])]⟩⟩
        have H0 := Lib.hid (And.intro hm0 (And.intro own0 (below1 w (.cells cl.toArray 5))))
        clear hm0 own0 hz hkk hcur hcs
        go_enter Tryd.func61, Tryd.ntmps61
        go_wp2_with (go_at_call 77; refine (HS.out _).mono ?_; rintro e w' ⟨rfl, rfl⟩)
        generalize w.alloc (.cells cl.toArray 5) = w0 at *
        clear hmk hz'
        go_loopw [26] (fun i wr => ∃ (k : Nat) (xs : List Value), k ≤ s ∧ i = .int .i64 (k : Int) ∧ Hid (FilledV m k s xs ∧ wr.ownsRow w.heap.size 5 1 (.slice (some ⟨w.heap.size, 0, none⟩) s s) s xs ∧ Below w.heap.size w wr)) (fun i _ => s - (intOf i).toNat)
        case atStart => exact ⟨0, _, by omega, rfl, H0⟩
        case round =>
          clear H0
          obtain ⟨k, xs, hk, rfl, HK⟩ := hrel
          by_cases hlt : k < s
          · have c0 : ∃ y, wr.cell? ⟨w.heap.size, k, none⟩ = some y := by
              have := World.ownsRow.cellAt HK.2.1 k (by omega)
              rw [this]
              exact ⟨_, List.getElem?_eq_getElem (by have := HK.1.len; omega)⟩
            obtain ⟨y, hy⟩ := c0
            have hf := World.ownsRow.frozenAt HK.2.1 k
            have HN := Lib.hid (World.ownsRow.stored HK.2.1 k (.int .u8 ((m : Int) / 256 ^ k % 256)))
            have HP := Lib.hid (pow8 k)
            go_wp2_with fail
            rw [HP.out]
            go_roundw
            case rel => exact ⟨k + 1, _, by omega, by go_num, Lib.hid ⟨HK.1.next hlt, HN.out.1, HK.2.2.setCell (Nat.le_refl _) _⟩⟩
            case measure => simp [intOf]; omega
          · have hks : k = s := by omega
            subst hks
            have HX := Lib.hid HK.1.all
            go_wp2_with fail
            go_ret2
            refine ⟨.slice (some ⟨w.heap.size, 0, none⟩) k k, by rw [HE.out.2]; rfl, ?_, HK.2.2⟩
            rw [HE.out.1]
            have h := HK.2.1
            rw [HX.out] at h
            unfold OwnB
            rw [leB_len]
            exact h
      · have hz' : ((m : Int) / 2 ^ (8 * s) != 0) = true := by simpa using hz
        have hkk : okN m s = false := decide_eq_false (by rw [Int.toNat_natCast, ← pow8]; omega)
        have HE : NumTo m s w (.returned (.tuple #[.slice none 0 0, .int .i64 1])) w := ⟨_, by rw [numE, hkk]; rfl, by rw [numL, hkk]; exact OwnB.nil _ _, Below.refl _ _⟩
        clear hkk hz
        have HE := Lib.hid HE
        go_enter Tryd.func61, Tryd.ntmps61
        go_wp2_with (go_at_call 77; refine (HS.out _).mono ?_; rintro e w' ⟨rfl, rfl⟩)
        go_ret2
        exact HE.out
  · rw [decide_eq_false h1] at HS
    have hk : okN n size = false := decide_eq_false (by omega)
    have HE : NumTo n size w (.returned (.tuple #[.slice none 0 0, .int .i64 1])) w := ⟨_, by rw [numE, hk]; rfl, by rw [numL, hk]; exact OwnB.nil _ _, Below.refl _ _⟩
    clear hk
    have HE := Lib.hid HE
    go_enter Tryd.func61, Tryd.ntmps61
    go_wp2_with (go_at_call 77; refine (HS.out _).mono ?_; rintro e w' ⟨rfl, rfl⟩)
    go_ret2
    exact HE.out
end Go.Proofs.YtophhnolnlbecaaDoor
namespace Go.Proofs.YtophhnolnlbecaaDoor
open Go.RowKit
set_option maxRecDepth 100000

theorem or_next {x y j : Nat} (hj : j ≤ 7) (hx : x < 256 ^ j) (hy : y < 256) : bits .or .u64 (x : Int) (IntKind.u64.wrap ((y : Int) * 2 ^ (8 * j))) = ((x + 256 ^ j * y : Nat) : Int) ∧ x + 256 ^ j * y < 18446744073709551616 := by
  have hp : 256 ^ j ≤ 72057594037927936 := Nat.le_trans (Nat.pow_le_pow_right (by decide) hj) (by decide)
  have hp2 : (2 : Nat) ^ (8 * j) = 256 ^ j := by rw [Nat.pow_mul]
  have hm : 256 ^ j * y ≤ 256 ^ j * 255 := Nat.mul_le_mul_left _ (by omega)
  have e1 : (y : Int) * 2 ^ (8 * j) = ((256 ^ j * y : Nat) : Int) := by
    have : ((2 : Int) ^ (8 * j)) = ((2 ^ (8 * j) : Nat) : Int) := by rw [Int.natCast_pow]; rfl
    rw [this, hp2, ← Int.natCast_mul, Nat.mul_comm]
  have e2 : IntKind.u64.wrap (((256 ^ j * y : Nat) : Int)) = ((256 ^ j * y : Nat) : Int) := by
    rw [IntKind.wrap_u64]
    generalize 256 ^ j * y = z at *
    omega
  have e3 := Nat.two_pow_add_eq_or_of_lt (i := 8 * j) (show x < 2 ^ (8 * j) by rw [hp2]; exact hx) y
  rw [hp2] at e3
  rw [e1, e2, u64_or_nat x _ (by omega) (by generalize 256 ^ j * y = z at *; omega), Nat.or_comm, ← e3]
  generalize 256 ^ j * y = z at *
  refine ⟨by omega, ?_⟩
  omega
theorem valB_next {l : List Int} {j : Nat} {y : Int} (hy : l[j]? = some y) : valB (l.take (j + 1)) = valB (l.take j) + 256 ^ j * y := by
  have hl := lt_of_get hy
  rw [take_next hy, valB_append, List.length_take, Nat.min_eq_left (by omega)]
  simp [valB]
set_option maxHeartbeats 4000000 in
theorem pread_any (la : Option Addr) (c n : Nat) (l : List Int) (at_ size : Int) (w : World) (ha : InB w la l) (hB : isB l) (hn : l.length = n) (hl : n ≤ 140737488351232) (hcap : n ≤ c) (h1 : okInt at_) (h2 : okInt size) :
    Calls Tryd.prog 65 #[.slice la n c, .int .i64 at_, .int .i64 size] w (ReadTo l at_ size w) := by
  have HS := Lib.hid (isSize_any size)
  unfold okInt at h1 h2
  have HA := Lib.hid (And.intro ha (And.intro hB hn))
  clear ha hB
  by_cases hz : 1 ≤ size ∧ size ≤ 8
  · rw [decide_eq_true hz] at HS
    by_cases a3 : at_ < 0
    · have HE := Lib.hid (ReadTo.bad (l := l) (w := w) (show argR l at_ size = false from decide_eq_false (by omega)))
      clear hn
      go_enter Tryd.func65, Tryd.ntmps65
      go_wp2_with (go_at_call 77; refine (HS.out _).mono ?_; rintro e w' ⟨rfl, rfl⟩)
      go_ret2
      exact HE.out
    by_cases a4 : at_ > n
    · have HE := Lib.hid (ReadTo.bad (l := l) (w := w) (show argR l at_ size = false from decide_eq_false (by omega)))
      clear hn
      go_enter Tryd.func65, Tryd.ntmps65
      go_wp2_with (go_at_call 77; refine (HS.out _).mono ?_; rintro e w' ⟨rfl, rfl⟩)
      go_ret2
      exact HE.out
    obtain ⟨a, rfl⟩ := Int.eq_ofNat_of_zero_le (show 0 ≤ at_ by omega)
    obtain ⟨s, rfl⟩ := Int.eq_ofNat_of_zero_le (show 0 ≤ size by omega)
    have HG : Hid (argR l a s = true) := Lib.hid (decide_eq_true (by omega))
    by_cases a5 : (n : Int) - a < s
    · have HE := Lib.hid (ReadTo.short (w := w) HG.out (show lenR l a s = false from decide_eq_false (by omega)))
      clear hn
      go_enter Tryd.func65, Tryd.ntmps65
      go_wp2_with (go_at_call 77; refine (HS.out _).mono ?_; rintro e w' ⟨rfl, rfl⟩)
      go_ret2
      exact HE.out
    have HL : Hid (lenR l a s = true) := Lib.hid (decide_eq_true (by omega))
    have hs8 : s ≤ 8 := by omega
    have hs1 : 1 ≤ s := by omega
    have has : a + s ≤ n := by omega
    have HN := Lib.hid hn
    obtain ⟨b, o, x0, rfl, -, -⟩ := HA.out.1.one (i := a) (by omega)
    clear hn
    have hadd : (⟨b, o, none⟩ : Addr).add a = ⟨b, o + a, none⟩ := by unfold Addr.add; split <;> simp_all
    have hmap : Option.map (fun x : Addr => x.add a) (some ⟨b, o, none⟩) = some ⟨b, o + a, none⟩ := by rw [Option.map_some, hadd]
    have hsub : a + s - a = s := by omega
    clear hadd
    go_enter Tryd.func65, Tryd.ntmps65
    go_wp2_with (go_at_call 77; refine (HS.out _).mono ?_; rintro e w' ⟨rfl, rfl⟩)
    go_loop [8, 37] (fun u i => ∃ (j x : Nat), j ≤ s ∧ i = .int .i64 (j : Int) ∧ u = .int .u64 (x : Int) ∧ x < 18446744073709551616 ∧ Hid ((x : Int) = valB ((l.drop a).take j))) (fun _ i => s - (intOf i).toNat)
    case atStart => exact ⟨0, 0, by omega, rfl, rfl, by omega, Lib.hid rfl⟩
    case round =>
      obtain ⟨j, x, hj, rfl, rfl, hx, HX⟩ := hrel
      by_cases hlt : j < s
      · obtain ⟨b', o', y, e', hy, y0⟩ := HA.out.1.one (i := a + j) (by rw [HN.out]; omega)
        obtain ⟨rfl, rfl⟩ : b = b' ∧ o = o' := by injection e' with e'; injection e' with e1 e2; exact ⟨e1, e2⟩
        clear e'
        have hyb := HA.out.2.1.at' hy
        rw [← Nat.add_assoc] at y0
        obtain ⟨z, rfl⟩ := Int.eq_ofNat_of_zero_le hyb.1
        have hsm := valB_small ((HA.out.2.1.drop a).take' j) (m := j) (by rw [List.length_take]; omega)
        rw [← HX] at hsm
        have hxj : x < 256 ^ j := by
          have e2 : ((256 ^ j : Nat) : Int) = 256 ^ j := by rw [Int.natCast_pow]; rfl
          rw [← e2] at hsm; omega
        obtain ⟨hor, hlt2⟩ := or_next (y := z) (show j ≤ 7 by omega) hxj (by omega)
        have HV := Lib.hid (valB_next (l := l.drop a) (j := j) (y := (z : Int)) (by rw [List.getElem?_drop]; exact hy))
        have HW : Hid (((x + 256 ^ j * z : Nat) : Int) = valB ((l.drop a).take (j + 1))) := Lib.hid (by
          rw [HV.out, ← HX, Int.natCast_add, Int.natCast_mul, Int.natCast_pow]; rfl)
        have HO := Lib.hid hor
        generalize x + 256 ^ j * z = x2 at *
        clear hy hsm hxj HV hor
        go_wp2_with fail
        rw [HO.out]
        go_round
        case rel => exact ⟨j + 1, x2, by omega, by go_num, rfl, hlt2, HW⟩
        case measure => simp [intOf]; omega
      · have hjs : j = s := by omega
        subst hjs
        by_cases ht : x ≤ 9223372036854775807
        · have HT : Hid (topR l a j = true) := Lib.hid (decide_eq_true (by unfold cutB; rw [Int.toNat_natCast, Int.toNat_natCast, ← HX]; omega))
          have HE := Lib.hid (ReadTo.good (w := w) HG.out HL.out HT.out (show (x : Int) = valB (cutB l a j) by unfold cutB; rw [Int.toNat_natCast, Int.toNat_natCast, HX]))
          go_wp2_with fail
          go_ret2
          exact HE.out
        · have HT : Hid (topR l a j = false) := Lib.hid (decide_eq_false (by unfold cutB; rw [Int.toNat_natCast, Int.toNat_natCast, ← HX]; omega))
          have HE := Lib.hid (ReadTo.top (w := w) HG.out HL.out HT.out)
          go_wp2_with fail
          go_ret2
          exact HE.out
  · rw [decide_eq_false hz] at HS
    have HE := Lib.hid (ReadTo.bad (l := l) (w := w) (show argR l at_ size = false from decide_eq_false (by omega)))
    clear hn
    go_enter Tryd.func65, Tryd.ntmps65
    go_wp2_with (go_at_call 77; refine (HS.out _).mono ?_; rintro e w' ⟨rfl, rfl⟩)
    go_ret2
    exact HE.out
end Go.Proofs.YtophhnolnlbecaaDoor
namespace Go.Proofs.YtophhnolnlbecaaDoor
open Go.RowKit
set_option maxRecDepth 100000

/-- The block g is this row of bytes, no more. -/
def FullAt (w : World) (g : Nat) (L : List Int) : Prop := w.heap[g]? = some (.cells (btV L).toArray 5)
def spl (L : List Int) (k : Nat) (xs : List Int) : List Int := L.take k ++ (xs ++ L.drop (k + xs.length))
theorem spl_mid {a m b x : List Int} (h : m.length = x.length) {k : Nat} (hk : k = a.length) : spl (a ++ (m ++ b)) k x = a ++ (x ++ b) := by
  subst hk
  unfold spl
  rw [List.take_left' rfl, ← List.drop_drop, List.drop_left' rfl, List.drop_left' h]
theorem spl_len {L xs : List Int} {k : Nat} (h : k + xs.length ≤ L.length) : (spl L k xs).length = L.length := by
  unfold spl
  rw [List.length_append, List.length_append, List.length_take, List.length_drop]
  omega
theorem splice_bt (L : List Int) (k : Nat) (xs : List Int) : splice (btV L) k (btV xs) = btV (spl L k xs) := by
  unfold splice spl
  simp [btV, List.map_take, List.map_drop]
theorem bt_one (l : List Int) : ∀ v ∈ btV l, v.oneCell' = true := by
  intro v hv
  simp only [btV, List.mem_map] at hv
  obtain ⟨x, -, rfl⟩ := hv
  rfl
section
variable {w w' : World} {g B : Nat} {L : List Int}
theorem FullAt.lt (h : FullAt w g L) : g < w.heap.size := lt_of_block h
theorem FullAt.then_ (h : FullAt w g L) (hb : Below w.heap.size w w') : FullAt w' g L := (hb.block g h.lt).trans h
theorem FullAt.inB (h : FullAt w g L) : InB w (some ⟨g, 0, none⟩) L := fun i x hx => ⟨g, 0, rfl, by rw [row_cells h]; simp [btV, hx]⟩
theorem FullAt.at_ (h : FullAt w g L) {j : Nat} {x : Int} (hx : L[j]? = some x) : w.cell? ⟨g, j, none⟩ = some (.int .u8 x) ∧ w.frozen? ⟨g, j, none⟩ = false := by
  refine ⟨by rw [row_cells h]; simp [btV, hx], ?_⟩
  simp [World.frozen?, show w.heap[g]? = _ from h]
theorem FullAt.own (h : FullAt w g L) (hB : B ≤ g) (hl : L.length ≤ maxLen) : OwnB w B (.slice (some ⟨g, 0, none⟩) L.length L.length) L := by
  refine ⟨by simp [btV], .inr ⟨g, L.length, _, rfl, hB, h, Nat.le_refl _, hl, by simp [btV], by rw [List.take_of_length_le (by simp [btV])]⟩⟩
theorem FullAt.set (h : FullAt w g L) (j : Nat) (x : Int) : FullAt (w.setCell ⟨g, j, none⟩ (.int .u8 x)) g (L.set j x) := by
  unfold FullAt
  have h' : w.heap[g]? = some (.cells (btV L).toArray 5) := h
  simp [World.setCell, Array.getElem?_modify, h', btV, List.map_set]
end
/-- 'copy(b[k:], x)' into such a row. -/
theorem cpF {ops : Array Oper} {rest : List Oper} {o : Oper} {a : Act} {w : World} {Q : Exit → Act → World → Prop} (hgd : o.guard = none) (d s : Operand)
    (ho : o.op = .call { callee := .builtin .copy, args := #[d, s], argTypes := #[22, 22] }) (g k n c : Nat) (L : List Int) (hf : FullAt w g L) (hd : a.eval d = .slice (some ⟨g, k, none⟩) n c)
    (ax : Option Addr) (m cx : Nat) (xs : List Int) (hs : a.eval s = .slice ax m cx) (hm : xs.length = m) (hmn : m ≤ n) (hin : InB w ax xs) (hk : k + m ≤ L.length) (B : Nat) (w0 : World) (hb : Below B w0 w) (hB : B ≤ g)
    (h : ∀ w', Hid (FullAt w' g (spl L k xs)) → Below B w0 w' → wpList Tryd.prog ops Q rest (a.put o.dst (goInt m)) w') : wpList Tryd.prog ops Q (o :: rest) a w := by
  refine wpList_copy_splice hgd d s 22 22 ho 5 Tryd.underlying22 (by kernel_rfl) _ _ n c m cx hd hs g k (btV L) 5 hf (btV xs) (by rw [btV_len, hm]; exact (Nat.min_eq_left hmn).symm) (fun hp => ?_) (by rw [btV_len, btV_len, hm]; exact hk) (bt_one _) B w0 hb hB ?_
  · rw [btV_len] at hp
    exact ⟨rfl, hin.src (Below.refl _ _) hp⟩
  · intro w' hg hb'
    rw [btV_len, hm]
    exact h w' (Lib.hid (by unfold FullAt; rw [← splice_bt]; exact hg.out)) hb'
end Go.Proofs.YtophhnolnlbecaaDoor
