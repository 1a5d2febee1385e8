/- The document's own Join: its contract. The document's own Join where it joins: its contract. What layer 11's statements call over bytes: Lent. No statement is proved here. -/
import Derived.Test.YtophhnolnlbecaaDoorQ3
import Derived.Test.YtophhnolnlbecaaDoorQ1
import Derived.Laws.CopyOwn
namespace Go.Proofs.YtophhnolnlbecaaDoor
open Go.RowKit
set_option maxRecDepth 100000

def okJ (x y n : Int) : Bool := mayB x && (mayB y && decide (0 ≤ n))
def joinP (x y n : Int) : Int := if okJ x y n then ((joinN x.toNat y.toNat n.toNat : Nat) : Int) else 0
def joinE (x y n : Int) : Int := if okJ x y n then 0 else 1
theorem OwnW.then_ {w w' : World} {B : Nat} {v : Value} {l : List Nat} (h : OwnW w B v l) (hb : Below w.heap.size w w') : OwnW w' B v l := row_keep h hb
theorem OwnW.keep {w w' : World} {B : Nat} {v : Value} {l : List Nat} (h : OwnW w B v l) (hb : ∀ g, v.ownBlock = some g → w'.heap[g]? = w.heap[g]?) : OwnW w' B v l := by
  obtain ⟨h1, h2⟩ := h
  refine ⟨h1, ?_⟩
  rcases h2 with h2 | ⟨g, cap, cur, hv, hB, hg, hrest⟩
  · exact .inl h2
  · refine .inr ⟨g, cap, cur, hv, hB, ?_, hrest⟩
    rw [hb g (by rw [hv]; rfl)]
    exact hg
theorem OwnW.block {w : World} {B : Nat} {v : Value} {l : List Nat} (h : OwnW w B v l) : ∀ g, v.ownBlock = some g → B ≤ g ∧ g < w.heap.size := World.ownsRow.lt h
theorem OwnW.nil (w : World) (B : Nat) : OwnW w B (.slice none 0 0) [] := World.ownsRow_nil _ _ _ _
theorem shl_bit {k : Nat} (hk : k < 32) : (2 : Int) ^ k % 4294967296 = ((2 ^ k : Nat) : Int) := by
  have := pow_lt32 hk
  have e : ((2 : Int) ^ k) = ((2 ^ k : Nat) : Int) := by rw [Int.natCast_pow]; rfl
  rw [e]
  generalize 2 ^ k = p at *
  omega
end Go.Proofs.YtophhnolnlbecaaDoor
namespace Go.Proofs.YtophhnolnlbecaaDoor
open Go.RowKit
set_option maxRecDepth 100000

theorem rowN_snoc (n : Nat) {k : Nat} (hk : k < 32) : (rowN n).take (k + 1) = (rowN n).take k ++ [t8N n (2 ^ k)] := by
  rw [List.take_add_one, rowN_get n hk]; rfl
theorem take32 (n : Nat) : (rowN n).take 32 = rowN n := List.take_of_length_le (by rw [rowN_len]; omega)
theorem rowN_word (n : Nat) {k : Nat} (hk : k < 32) : t8N n (2 ^ k) < 4294967296 := t8N_lt n (pow_lt32 hk)
theorem OwnW.form {w : World} {B : Nat} {v : Value} {l : List Nat} (h : OwnW w B v l) (hl : 1 ≤ l.length) : ∃ g c, v = .slice (some ⟨g, 0, none⟩) l.length c ∧ B ≤ g ∧ g < w.heap.size ∧ ∀ i x, l[i]? = some x → w.cell? ⟨g, i, none⟩ = some (.int .u32 (x : Nat)) := by
  have h0 := h
  obtain ⟨h1, h2⟩ := h
  rcases h2 with ⟨hv, hz⟩ | ⟨g, cap, cur, hv, hb, hg, hle, hcm, hrest⟩
  · omega
  · subst hv
    refine ⟨g, cap, rfl, hb, (h0.block g rfl).2, fun i x hx => ?_⟩
    have hi := lt_of_get hx
    rw [World.ownsRow.cellAt h0 i (by omega), wdV, List.getElem?_map, hx]
    rfl
theorem OwnW.base {w : World} {B B' : Nat} {v : Value} {l : List Nat} (h : OwnW w B v l) (hB : B' ≤ B) : OwnW w B' v l := by
  obtain ⟨h1, h2⟩ := h
  refine ⟨h1, ?_⟩
  rcases h2 with h2 | ⟨g, cap, cur, hv, hb, hrest⟩
  · exact .inl h2
  · exact .inr ⟨g, cap, cur, hv, by omega, hrest⟩
theorem xorW (a b : Nat) (ha : a < 4294967296) (hb : b < 4294967296) : wrap64 (bits .xor .u32 (a : Int) (b : Int)) = ((a ^^^ b : Nat) : Int) := by
  have := Nat.xor_lt_two_pow (n := 32) ha hb
  rw [xor32 a b ha hb]
  generalize a ^^^ b = c at *
  simp only [wrap64]
  omega
theorem rowN_sq {n k : Nat} (hk : k < 32) : timesN (rowN n) (t8N n (2 ^ k)) = t8N (n + n) (2 ^ k) := by rw [rowN_times n (rowN_word n hk), t8N_add]
end Go.Proofs.YtophhnolnlbecaaDoor
namespace Go.Proofs.YtophhnolnlbecaaDoor
open Go.RowKit
set_option maxRecDepth 100000

/-- The row so far: the bytes, some marks, and what was there. -/
def MarkedV (l : List Int) (k : Nat) (xs : List Value) : Prop := ∃ rest, rest.length + k = 3 ∧ xs = btV (l ++ List.replicate k 201) ++ rest
theorem MarkedV.next {l : List Int} {k : Nat} {xs : List Value} (h : MarkedV l k xs) (hk : k < 3) : MarkedV l (k + 1) (xs.set (l.length + k) (.int .u8 201)) := by
  obtain ⟨rest, hr, rfl⟩ := h
  cases rest with
  | nil => simp at hr; omega
  | cons y rest =>
    refine ⟨rest, by simp at hr; omega, ?_⟩
    have e : (btV (l ++ List.replicate k 201)).length = l.length + k := by rw [btV_len]; simp
    rw [List.set_append_right _ _ (by omega), e, Nat.sub_self, List.set_cons_zero, List.replicate_succ']
    simp only [btV_append, List.append_assoc]
    rfl
theorem MarkedV.all {l : List Int} {xs : List Value} (h : MarkedV l 3 xs) : xs = btV (l ++ [201, 201, 201]) := by
  obtain ⟨rest, hr, rfl⟩ := h
  have : rest = [] := List.eq_nil_of_length_eq_zero (by omega)
  subst this
  rw [List.append_nil]; rfl
theorem MarkedV.len {l : List Int} {k : Nat} {xs : List Value} (h : MarkedV l k xs) : xs.length = l.length + 3 := by
  obtain ⟨rest, hr, rfl⟩ := h
  rw [List.length_append, btV_len, List.length_append, List.length_replicate]; omega
theorem size_byte : (Tryd.prog.info? 5).map (·.size) = some 1 := by kernel_rfl
/-- Bytes as what a copy reads. -/
theorem InB.src {w w' : World} {a : Option Addr} {l : List Int} (h : InB w a l) (hb : Below w.heap.size w w') (hl : 0 < l.length) : ∃ ad, a = some ad ∧ ∀ j v, (btV l)[j]? = some v → w'.cell? (ad.add j) = some v := by
  obtain ⟨b, o, x, e, -, -⟩ := h.one (i := 0) hl
  refine ⟨_, e, fun j v hv => ?_⟩
  rw [btV, List.getElem?_map, Option.map_eq_some_iff] at hv
  obtain ⟨y, hy, rfl⟩ := hv
  obtain ⟨b', o', e', hc⟩ := (h.then_ hb) j y hy
  rw [e] at e'
  injection e' with e'
  injection e' with e1 e2
  subst e1 e2
  rw [show (⟨b, o, none⟩ : Addr).add j = ⟨b, o + j, none⟩ by unfold Addr.add; split <;> simp_all]
  exact hc
set_option maxHeartbeats 4000000 in
theorem slent_any (a : Option Addr) (c n : Nat) (l : List Int) (w : World) (ha : InB w a l) (h0 : a = none → c = 0 ∧ l = []) (hn : l.length = n) (hl : n + 3 ≤ 140737488355328) :
    Calls Tryd.prog 10 #[.slice a n c] w fun e w' => e = .returned (.slice (some ⟨w.heap.size, 0, none⟩) n (n + 3)) ∧ OwnB w' w.heap.size (.slice (some ⟨w.heap.size, 0, none⟩) (n + 3) (n + 3)) (l ++ [201, 201, 201]) ∧ Below w.heap.size w w' := by
  obtain ⟨cur, hcur, hmk⟩ := make_any (P := Tryd.prog) 22 5 _ 1 1 Tryd.underlying22 info_byte (n + 3) (n + 3) (by omega) (by omega) (by omega)
  replace hmk : ∀ w : World, (Instr.makeSlice 22 (.int .i64 ((n : Int) + 3)) (.int .i64 ((n : Int) + 3))).run Tryd.prog w = .ok (.slice (some ⟨w.heap.size, 0, none⟩) (n + 3) (n + 3)) (w.alloc (.cells cur 5)) := fun w => by have := hmk w; simpa using this
  obtain ⟨cl, hcl⟩ : ∃ cl : List Value, cur = cl.toArray := ⟨cur.toList, by simp⟩
  subst hcl
  have hcs : cl.length = n + 3 := by simpa using hcur
  have HA := Lib.hid (And.intro ha (And.intro h0 (And.intro hn hcs)))
  clear ha h0 hcur hn hcs
  go_enter Tryd.func10, Tryd.ntmps10
  go_wp2_with ((refine wpList_copy_splice (o := ⟨some 11, _, _, _, _, _⟩) rfl (.tmp 9) (.tmp 10) 22 22 rfl 5 Tryd.underlying22 size_byte _ _ _ _ _ _ rfl rfl w.heap.size 0 cl 5 (heap_alloc_new w _) (btV l) (by rw [btV_len, HA.out.2.2.1]; exact (Nat.min_eq_left (by omega)).symm) (fun hp => ⟨rfl, HA.out.1.src (below1 w _) (by rw [btV_len] at hp; omega)⟩) (by rw [btV_len, HA.out.2.2.1, HA.out.2.2.2]; omega) (btV_one l) w.heap.size w (below1 w _) (Nat.le_refl _) ?_; intro w2 hg2 hb2; have HB2 := Lib.hid hb2; clear hb2))
  have hl0 : (splice cl 0 (btV l)).length = n + 3 := by simp [splice, btV_len, HA.out.2.2.1, HA.out.2.2.2]
  have hm0 : MarkedV l 0 (splice cl 0 (btV l)) := ⟨cl.drop n, by rw [List.length_drop, HA.out.2.2.2]; omega, by simp [splice, btV_len, HA.out.2.2.1]⟩
  have own0 : w2.ownsRow w.heap.size 5 1 (.slice (some ⟨w.heap.size, 0, none⟩) (n + 3) (n + 3)) (n + 3) (splice cl 0 (btV l)) :=
    ⟨by rw [hl0]; omega, .inr ⟨w.heap.size, n + 3, _, rfl, Nat.le_refl _, hg2, Nat.le_refl _, by unfold maxLen; omega, by simp [hl0], by rw [List.take_of_length_le (by simp [hl0])]⟩⟩
  have H0 := Lib.hid (And.intro hm0 own0)
  clear hl0 hm0 own0 hg2
  go_loopw [4] (fun i wr => ∃ (k : Nat) (xs : List Value), k ≤ 3 ∧ i = .int .i64 ((n : Int) + (k : Int)) ∧ Hid (MarkedV l k xs ∧ wr.ownsRow w.heap.size 5 1 (.slice (some ⟨w.heap.size, 0, none⟩) (n + 3) (n + 3)) (n + 3) xs ∧ Below w.heap.size w wr)) (fun i _ => n + 3 - (intOf i).toNat)
  case atStart => exact ⟨0, _, by omega, by go_num, H0.out.1, H0.out.2, HB2.out⟩
  case round =>
    obtain ⟨k, xs, hk, rfl, HK⟩ := hrel
    by_cases hlt : k < 3
    · have c0 : ∃ y, wr.cell? ⟨w.heap.size, n + k, none⟩ = some y := by
        have := World.ownsRow.cellAt HK.2.1 (n + k) (by omega)
        rw [this]
        exact ⟨_, List.getElem?_eq_getElem (by have := HK.1.len; rw [HA.out.2.2.1] at this; omega)⟩
      obtain ⟨y, hy⟩ := c0
      have hf := World.ownsRow.frozenAt HK.2.1 (n + k)
      go_wp2_with fail
      go_roundw
      case rel =>
        have h := World.ownsRow.stored HK.2.1 (n + k) (.int .u8 201)
        exact ⟨k + 1, xs.set (n + k) (.int .u8 201), by omega, by go_num, by rw [← HA.out.2.2.1]; exact HK.1.next hlt, h.1, HK.2.2.setCell (Nat.le_refl _) _⟩
      case measure => simp [intOf]; omega
    · have hk3 : k = 3 := by omega
      rw [hk3] at HK
      have HX := Lib.hid HK.1.all
      go_wp2_with fail
      go_ret
      refine ⟨rfl, ?_, HK.2.2⟩
      have h := HK.2.1
      rw [HX.out] at h
      unfold OwnB
      rw [show (l ++ [(201 : Int), 201, 201]).length = n + 3 by rw [List.length_append, HA.out.2.2.1]; rfl]
      exact h
end Go.Proofs.YtophhnolnlbecaaDoor
