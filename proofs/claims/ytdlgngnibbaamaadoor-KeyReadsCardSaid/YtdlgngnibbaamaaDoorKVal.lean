/- The contracts of keyenc's appendValue, appendList and appendDoc: no statement is proved here. -/
import Derived.Test.YtdlgngnibbaamaaDoorKNum
namespace Go.Proofs.YtdlgngnibbaamaaDoor
open Go.RowKit
set_option maxRecDepth 100000

/-- A list's elements in a key, but for the end. -/
def pL (l : List V) : List Int := l.flatMap fun x => 1 :: keyV x
def pD (l : List (ByteArray × V)) : List Int := l.flatMap fun f => 1 :: (keyT (bsI f.1) ++ keyV f.2)
theorem keyL_eq (l : List V) : keyL l = pL l ++ [0] := by
  induction l with
  | nil => rfl
  | cons x r ih => rw [keyL, ih]; simp [pL]
theorem keyD_eq (l : List (ByteArray × V)) : keyD l = pD l ++ [0] := by
  induction l with
  | nil => rfl
  | cons x r ih => obtain ⟨s, x⟩ := x; rw [keyD, ih]; simp [pD]
theorem flat_take {α : Type} (f : α → List Int) {l : List α} {k : Nat} {x : α} (h : l[k]? = some x) : (l.take (k + 1)).flatMap f = (l.take k).flatMap f ++ f x := by
  rw [List.take_add_one, h, List.flatMap_append]; simp
theorem pL_step {l : List V} {k : Nat} {x : V} (h : l[k]? = some x) : pL (l.take (k + 1)) = pL (l.take k) ++ (1 :: keyV x) := flat_take _ h
theorem pD_step {l : List (ByteArray × V)} {k : Nat} {x : ByteArray × V} (h : l[k]? = some x) : pD (l.take (k + 1)) = pD (l.take k) ++ (1 :: (keyT (bsI x.1) ++ keyV x.2)) := flat_take _ h
/-- How long it is by then. -/
theorem pL_room {l : List V} {k : Nat} {x : V} (h : l[k]? = some x) : (pL (l.take k)).length + 1 + (keyV x).length + 1 ≤ (keyL l).length := by
  have h1 := flat_le (fun x => 1 :: keyV x) l (k + 1)
  have h2 := congrArg List.length (pL_step h)
  rw [keyL_eq]
  unfold pL at *
  simp only [List.length_append, List.length_cons, List.length_nil] at *
  omega
theorem pD_room {l : List (ByteArray × V)} {k : Nat} {x : ByteArray × V} (h : l[k]? = some x) : (pD (l.take k)).length + 1 + (keyT (bsI x.1)).length + (keyV x.2).length + 1 ≤ (keyD l).length := by
  have h1 := flat_le (fun f : ByteArray × V => 1 :: (keyT (bsI f.1) ++ keyV f.2)) l (k + 1)
  have h2 := congrArg List.length (pD_step h)
  rw [keyD_eq]
  unfold pD at *
  simp only [List.length_append, List.length_cons, List.length_nil] at *
  omega
theorem pL_all (l : List V) {k : Nat} (h : l.length ≤ k) : pL (l.take k) ++ [0] = keyL l := by rw [List.take_of_length_le h, keyL_eq]
theorem pD_all (l : List (ByteArray × V)) {k : Nat} (h : l.length ≤ k) : pD (l.take k) ++ [0] = keyD l := by rw [List.take_of_length_le h, keyD_eq]

def AppAt (t : T) : Prop := ∀ (B : Nat) (v : Value) (l : List Int) (w : World), B ≤ w.heap.size → OwnB w B v l → l.length + (keyV t.val).length ≤ 140737488355328 → t.In w → (∀ p ∈ t.places, p.1.block < B) →
    Calls Tryd.prog 80 #[v, t.arg] w fun e w' => ∃ v', e = .returned v' ∧ Grew B w w' v v' (l ++ keyV t.val)
theorem T.In.low {w w' : World} {t : T} {B : Nat} (h : t.In w) (hlow : ∀ p ∈ t.places, p.1.block < B) (hb : Below B w w') : t.In w' := h.keep fun p hp => hb.cell (hlow p hp)
theorem InL.low {w w' : World} {a : Option Addr} {l : List T} {B : Nat} (h : InL w a l) (hlow : ∀ p ∈ T.placesL a 0 l, p.1.block < B) (hb : Below B w w') : InL w' a l := fun p hp => (hb.cell (hlow p hp)).trans (h p hp)
theorem InD.low {w w' : World} {a : Option Addr} {l : List (ByteArray × T)} {B : Nat} (h : InD w a l) (hlow : ∀ p ∈ T.placesD a 0 l, p.1.block < B) (hb : Below B w w') : InD w' a l := fun p hp => (hb.cell (hlow p hp)).trans (h p hp)
theorem Grew.below0 {B : Nat} {w w' : World} {v v' : Value} {l l' : List Int} (h : Grew B w w' v v' l') (hv : OwnB w B v l) (hB : B ≤ w.heap.size) : Below B w w' := h.below hv (Below.refl _ _) (Nat.le_refl _) hB

set_option maxHeartbeats 4000000 in
theorem appList_any (B : Nat) (v : Value) (l0 : List Int) (la : Option Addr) (ca : Nat) (l : List T) (w : World) (hB : B ≤ w.heap.size) (hv : OwnB w B v l0) (hl : l0.length + (keyL (l.map T.val)).length ≤ 140737488355328) (ha : InL w la l)
    (hlow : ∀ p ∈ T.placesL la 0 l, p.1.block < B) (hn : l.length ≤ 1759218604390) (ih : ∀ x ∈ l, AppAt x) :
    Calls Tryd.prog 108 #[v, .slice la l.length ca] w fun e w' => ∃ v', e = .returned v' ∧ Grew B w w' v v' (l0 ++ keyL (l.map T.val)) := by
  have HV := Lib.hid hv
  have HA := Lib.hid (And.intro ha hlow)
  have IH := Lib.hid ih
  have HL := Lib.hid hl
  clear hv ha hlow ih hl
  go_enter Tryd.func108, Tryd.ntmps108
  go_wp2_with fail
  go_loopw [0, 9] (fun u i wr => ∃ k : Nat, k ≤ l.length ∧ i = .int .i64 k ∧ Grew B w wr v u (l0 ++ pL ((l.map T.val).take k))) (fun _ i _ => l.length - (intOf i).toNat)
  case atStart => exact ⟨0, by omega, rfl, by simpa [pL] using Grew.refl HV.out⟩
  case round =>
    obtain ⟨k, hk, rfl, hg⟩ := hrel
    have HG := Lib.hid hg
    have hz := Nat.le_trans hB hg.size
    have hin := HA.out.1.low HA.out.2 (hg.below0 HV.out hB)
    clear hg
    by_cases h1 : k < l.length
    · obtain ⟨b, o, k1, n1, s1, la1, lc1, l1, da1, dc1, d1, rfl, hx, hix, x0, x1, x2, x3, x4⟩ := hin.five h1
      have hvx : (l.map T.val)[k]? = some (T.val (.mk k1 n1 s1 la1 lc1 l1 da1 dc1 d1)) := by rw [List.getElem?_map, hx]; rfl
      have HR := Lib.hid (pL_room hvx)
      have HS := Lib.hid (pL_step hvx)
      have H := Lib.hid (And.intro (IH.out _ (List.mem_of_getElem? hx)) (fun p (hp : p ∈ T.places (.mk k1 n1 s1 la1 lc1 l1 da1 dc1 d1)) => HA.out.2 p ((T.mem_placesL _ _ _ _).2 ⟨k, _, hx, .inr hp⟩)))
      have HX := Lib.hid hix
      clear hx hix hin hvx
      go_wp2_with fail
      go_region_held3 (fun w' => w'.cell? ⟨wr.heap.size, 0, none⟩ = some (.int .i64 k1) ∧ w'.cell? ⟨wr.heap.size, 1, none⟩ = some (.int .i64 n1) ∧ w'.cell? ⟨wr.heap.size, 2, none⟩ = some (.string s1) ∧ w'.cell? ⟨wr.heap.size, 3, none⟩ = some (.slice la1 l1.length lc1) ∧ w'.cell? ⟨wr.heap.size, 4, none⟩ = some (.slice da1 d1.length dc1))
        (go_keep)
        (first
          | (refine stL _ rfl (.tmp 13) (.tmp 14) rfl B u0 _ rfl (HG.out.own.alloc _).drew [1] _ 1 1 rfl (by simp) rfl rfl (by have := HL.out; have := HR.out; rw [List.length_append]; omega) (Nat.le_trans hz (below1 _ _).size) ?_; intro v1 w1 hg1; have r1 : w1.heap[wr.heap.size]? = some (.cells #[.int .i64 k1, .int .i64 n1, .string s1, .slice la1 l1.length lc1, .slice da1 d1.length dc1] 25 (0, 0)) := hg1.row (heap_alloc_new wr _) HG.out.own.behind; have c1 := row_cells r1; have R1 := Lib.hid (And.intro r1 (And.intro (hg1.off (g := wr.heap.size) (by simp) HG.out.own.behind) ((hg1.pre (below1 _ _).drew).below0 HG.out.own hz))); have G1 := Lib.hid (HG.out.trans (hg1.pre (below1 _ _).drew)); clear hg1 r1)
          | (go_at_call 80; refine (H.out.1 B v1 _ w1 ?_ G1.out.own ?_ ?_ H.out.2).mono ?_; (exact Nat.le_trans hB G1.out.size); (have := HL.out; have := HR.out; rw [List.length_append, List.length_append, List.length_singleton]; omega); (exact HX.out.low H.out.2 (R1.out.2.2)); rintro e w2 ⟨v2, rfl, hg2⟩; have c2 := row_cells (hg2.row R1.out.1 R1.out.2.1); have G2 := Lib.hid (G1.out.trans hg2); clear hg2))
      go_wp2_with fail
      go_roundw
      case rel =>
        refine ⟨k + 1, by omega, by go_num, ?_⟩
        have h := G2.out
        rw [List.append_assoc, List.append_assoc] at h
        rw [HS.out]
        exact h
      case measure => simp [intOf]; omega
    · go_wp2_with (at_builtin; refine apL _ rfl (.tmp 19) (.tmp 20) rfl B _ _ rfl HG.out.own [0] _ 1 1 rfl rfl rfl rfl (by have := HL.out; rw [← pL_all _ (k := k) (by rw [List.length_map]; omega), List.length_append] at this; rw [List.length_append]; simp at this; omega) hz ?_; intro v1 w1 hg1; have G1 := Lib.hid hg1; clear hg1)
      go_ret
      have h := HG.out.trans G1.out
      rw [List.append_assoc, pL_all _ (by rw [List.length_map]; omega)] at h
      exact ⟨_, rfl, h⟩

set_option maxHeartbeats 4000000 in
theorem appDoc_any (B : Nat) (v : Value) (l0 : List Int) (la : Option Addr) (ca : Nat) (l : List (ByteArray × T)) (w : World) (hB : B ≤ w.heap.size) (hv : OwnB w B v l0) (hl : l0.length + (keyD (l.map fun f => (f.1, f.2.val))).length ≤ 140737488355328) (ha : InD w la l)
    (hlow : ∀ p ∈ T.placesD la 0 l, p.1.block < B) (hn : l.length ≤ 1759218604390) (ih : ∀ x ∈ l, AppAt x.2) :
    Calls Tryd.prog 109 #[v, .slice la l.length ca] w fun e w' => ∃ v', e = .returned v' ∧ Grew B w w' v v' (l0 ++ keyD (l.map fun f => (f.1, f.2.val))) := by
  have HV := Lib.hid hv
  have HA := Lib.hid (And.intro ha hlow)
  have IH := Lib.hid ih
  have HL := Lib.hid hl
  clear hv ha hlow ih hl
  go_enter Tryd.func109, Tryd.ntmps109
  go_wp2_with fail
  go_loopw [0, 9] (fun u i wr => ∃ k : Nat, k ≤ l.length ∧ i = .int .i64 k ∧ Grew B w wr v u (l0 ++ pD ((l.map fun f => (f.1, f.2.val)).take k))) (fun _ i _ => l.length - (intOf i).toNat)
  case atStart => exact ⟨0, by omega, rfl, by simpa [pD] using Grew.refl HV.out⟩
  case round =>
    obtain ⟨k, hk, rfl, hg⟩ := hrel
    have HG := Lib.hid hg
    have hz := Nat.le_trans hB hg.size
    have hin := HA.out.1.low HA.out.2 (hg.below0 HV.out hB)
    clear hg
    by_cases h1 : k < l.length
    · obtain ⟨b, o, f1, k1, n1, s1, la1, lc1, l1, da1, dc1, d1, rfl, hx, hix, x0, x1, x2, x3, x4, x5⟩ := hin.six h1
      have hvx : (l.map fun f => (f.1, f.2.val))[k]? = some (f1, T.val (.mk k1 n1 s1 la1 lc1 l1 da1 dc1 d1)) := by rw [List.getElem?_map, hx]; rfl
      have HR := Lib.hid (show (pD ((l.map fun f => (f.1, f.2.val)).take k)).length + 1 + (keyT (bsI f1)).length + (keyV (T.val (.mk k1 n1 s1 la1 lc1 l1 da1 dc1 d1))).length + 1 ≤ (keyD (l.map fun f => (f.1, f.2.val))).length from pD_room hvx)
      have HS := Lib.hid (pD_step hvx)
      have H := Lib.hid (And.intro (IH.out _ (List.mem_of_getElem? hx)) (fun p (hp : p ∈ T.places (.mk k1 n1 s1 la1 lc1 l1 da1 dc1 d1)) => HA.out.2 p ((T.mem_placesD _ _ _ _).2 ⟨k, _, hx, .inr hp⟩)))
      have HX := Lib.hid hix
      clear hx hix hin hvx
      go_wp2_with fail
      go_region_held3 (fun w' => w'.cell? ⟨wr.heap.size, 0, none⟩ = some (.string f1))
        (go_keep)
        (first
          | (refine stL _ rfl (.tmp 13) (.tmp 14) rfl B u0 _ rfl (HG.out.own.alloc _).drew [1] _ 1 1 rfl (by simp) rfl rfl (by have := HL.out; have := HR.out; rw [List.length_append]; omega) (Nat.le_trans hz (below1 _ _).size) ?_; intro v1 w1 hg1; have r1 : w1.heap[wr.heap.size]? = some (.cells #[.string f1, .int .i64 k1, .int .i64 n1, .string s1, .slice la1 l1.length lc1, .slice da1 d1.length dc1] 62 (0, 0)) := hg1.row (heap_alloc_new wr _) HG.out.own.behind; have c1 := row_cells r1; have R1 := Lib.hid (And.intro r1 (And.intro (hg1.off (g := wr.heap.size) (by simp) HG.out.own.behind) ((hg1.pre (below1 _ _).drew).below0 HG.out.own hz))); have G1 := Lib.hid (HG.out.trans (hg1.pre (below1 _ _).drew)); clear hg1 r1)
          | (go_at_call 107; refine (appText_any B v1 _ f1 w1 ?_ G1.out.own ?_).mono ?_; (exact Nat.le_trans hB G1.out.size); (have := HL.out; have := HR.out; rw [List.length_append, List.length_append, List.length_singleton]; omega); rintro e w2 ⟨v2, rfl, hg2⟩; have r2 := hg2.row R1.out.1 R1.out.2.1; have c2 := row_cells r2; have R2 := Lib.hid (And.intro r2 (And.intro (hg2.off (lt_of_block R1.out.1) R1.out.2.1) (hg2.below G1.out.own R1.out.2.2 (Nat.le_refl _) (Nat.le_trans hB G1.out.size)))); have G2 := Lib.hid (G1.out.trans hg2); clear hg2 r2))
      go_wp2_with (first
          | (go_at_call 80; refine (H.out.1 B v2 _ w2 ?_ G2.out.own ?_ ?_ H.out.2).mono ?_; (exact Nat.le_trans hB G2.out.size); (have := HL.out; have := HR.out; rw [List.length_append, List.length_append, List.length_append, List.length_singleton]; omega); (exact HX.out.low H.out.2 (R2.out.2.2)); rintro e w3 ⟨v3, rfl, hg3⟩; have G3 := Lib.hid (G2.out.trans hg3); clear hg3))
      go_roundw
      case rel =>
        refine ⟨k + 1, by omega, by go_num, ?_⟩
        have h := G3.out
        rw [List.append_assoc, List.append_assoc, List.append_assoc] at h
        rw [HS.out]
        simpa using h
      case measure => simp [intOf]; omega
    · go_wp2_with (at_builtin; refine apL _ rfl (.tmp 24) (.tmp 25) rfl B _ _ rfl HG.out.own [0] _ 1 1 rfl rfl rfl rfl (by have := HL.out; rw [← pD_all _ (k := k) (by rw [List.length_map]; omega), List.length_append] at this; rw [List.length_append]; simp at this; omega) hz ?_; intro v1 w1 hg1; have G1 := Lib.hid hg1; clear hg1)
      go_ret
      have h := HG.out.trans G1.out
      rw [List.append_assoc, pD_all _ (by rw [List.length_map]; omega)] at h
      exact ⟨_, rfl, h⟩

theorem Grew.in_ {B : Nat} {w w' : World} {v v' : Value} {l' : List Int} {t : T} (h : Grew B w w' v v' l') (hin : t.In w) (ha : ∀ p ∈ t.places, some p.1.block ≠ v.ownBlock) : t.In w' :=
  hin.keep fun p hp => World.cell?_of_block (h.grow.block _ (cell_lt (hin p hp)) (ha p hp))
theorem Grew.inL {B : Nat} {w w' : World} {v v' : Value} {l' : List Int} {a : Option Addr} {l : List T} (h : Grew B w w' v v' l') (hin : InL w a l) (ha : ∀ p ∈ T.placesL a 0 l, some p.1.block ≠ v.ownBlock) : InL w' a l :=
  fun p hp => (World.cell?_of_block (h.grow.block _ (cell_lt (hin p hp)) (ha p hp))).trans (hin p hp)
theorem Grew.inD {B : Nat} {w w' : World} {v v' : Value} {l' : List Int} {a : Option Addr} {l : List (ByteArray × T)} (h : Grew B w w' v v' l') (hin : InD w a l) (ha : ∀ p ∈ T.placesD a 0 l, some p.1.block ≠ v.ownBlock) : InD w' a l :=
  fun p hp => (World.cell?_of_block (h.grow.block _ (cell_lt (hin p hp)) (ha p hp))).trans (hin p hp)
/-- What stood apart from the row stands apart from what it has become. -/
theorem Grew.apart {B : Nat} {w w' : World} {v v' : Value} {l' : List Int} (h : Grew B w w' v v' l') {g : Nat} (hg : g < w.heap.size) (ha : some g ≠ v.ownBlock) : some g ≠ v'.ownBlock := by
  rcases h.at_ with h1 | ⟨k, h1, h2⟩
  · rw [h1]; exact ha
  · rw [h1]; intro e; injection e with e; omega
end Go.Proofs.YtdlgngnibbaamaaDoor
