/- The contracts of the program's writer: appendNumber, closed, appendField, appendDoc, appendList, appendValue, Encode. No statement is proved here. -/
import Derived.Test.YtjfgmcmnpekahaaDoorBCurW
import Derived.Deep.RegionHeld3
namespace Go.Proofs.YtjfgmcmnpekahaaDoor
open Go.RowKit
set_option maxRecDepth 100000

theorem OwnB.form {w : World} {B : Nat} {v : Value} {l : List Int} (h : OwnB w B v l) (hl : 1 ≤ l.length) : ∃ g c, v = .slice (some ⟨g, 0, none⟩) l.length c ∧ l.length ≤ c := by
  obtain ⟨g, c, rfl, -, -⟩ := World.ownsRow.form h hl
  refine ⟨g, c, rfl, ?_⟩
  obtain ⟨h1, h2⟩ := h
  rcases h2 with ⟨hv, _⟩ | ⟨g', cap, cur, hv, _, _, hle, _⟩
  · cases hv
  · injection hv with _ _ e; omega
theorem low8 (n : Int) (k : Nat) : n / 2 ^ (8 * k) % 256 = n / 256 ^ k % 256 := by
  rw [Int.pow_mul]; rfl
set_option maxHeartbeats 2000000 in
theorem apNumber_any (B : Nat) (v : Value) (width : Nat) (n : Int) (l : List Int) (w : World) (hB : B ≤ w.heap.size) (hv : OwnB w B v l) (hw : width ≤ 8) (hm : l.length + width ≤ 140737488355328) :
    Calls Tryd.prog 33 #[v, .int .i64 n, .int .i64 width] w fun e w' => ∃ v', e = .returned v' ∧ Grew B w w' v v' (l ++ leB width n) := by
  have HV := Lib.hid hv
  clear hv
  go_enter Tryd.func33, Tryd.ntmps33
  go_wp2_with fail
  go_loopw [0, 9] (fun u i wr => ∃ k : Nat, k ≤ width ∧ i = .int .i64 k ∧ Grew B w wr v u (l ++ leB k n)) (fun _ i _ => width - (intOf i).toNat)
  case atStart => exact ⟨0, by omega, rfl, by simpa [leB] using Grew.refl HV.out⟩
  case round =>
    obtain ⟨k, hk, rfl, hg⟩ := hrel
    have HG := Lib.hid hg
    have hz := Nat.le_trans hB hg.size
    clear hg
    by_cases h1 : k < width
    · have hsh : (0 : Int) ≤ 8 * (k : Int) := by omega
      go_wp2_with (at_builtin; refine apL _ rfl (.tmp 12) (.tmp 18) rfl B _ _ rfl HG.out.own [n / 2 ^ (8 * k) % 256] _ 1 1 rfl rfl rfl rfl (by rw [List.length_append, leB_len]; omega) hz ?_; intro v1 w1 hg1; have G1 := Lib.hid (HG.out.trans hg1); clear hg1)
      go_roundw
      case rel =>
        refine ⟨k + 1, by omega, by go_num, ?_⟩
        have h := G1.out
        rw [List.append_assoc, low8, ← leB_snoc] at h
        exact h
      case measure => simp [intOf]; omega
    · have hk8 : k = width := by omega
      subst hk8
      go_wp2_with fail
      go_ret
      exact ⟨_, rfl, HG.out⟩
/-- One byte over another one, by an append with room. -/
theorem OwnB.splice {w : World} {B g cap : Nat} {L : List Int} (h : OwnB w B (.slice (some ⟨g, 0, none⟩) L.length cap) L) {m : Nat} (hm : m < L.length) (x : Int) (ty : TypeId) (ad : Addr) (hx : w.cell? ad = some (.int .u8 x)) (hs : ad.spot = none) :
    ∃ w', (Builtin.append_ #[28, 28] ty #[.slice (some ⟨g, 0, none⟩) m cap, .slice (some ad) 1 1]).run Tryd.prog w = .ok (.slice (some ⟨g, 0, none⟩) (m + 1) cap) w' ∧ OwnB w' B (.slice (some ⟨g, 0, none⟩) L.length cap) (L.set m x) ∧ w.grownBy w' (some g) := by
  obtain ⟨i0, hi0, hz0, hz1, hz2⟩ := info_parts info_byte
  obtain ⟨h1, h2⟩ := h
  rcases h2 with ⟨hv, _⟩ | ⟨g', cap', cur, hv, hb, hg, hle, hcm, hcs, htk⟩
  · cases hv
  injection hv with e1 e2 e3
  injection e1 with e1
  injection e1 with e1
  subst e1 e3
  have hcs' : cur.size = cap := by rw [hcs]; omega
  have hr := run_append_room (P := Tryd.prog) w 28 ty 5 i0 Tryd.underlying28 hi0 g m cap cur hg ad 1 1 [.int .u8 x] (by rw [hz1]; rfl) (fun j u hj => by
    cases j with
    | zero => simp at hj; subst hj; rw [show ad.add 0 = ad by unfold Addr.add; obtain ⟨b, o, s⟩ := ad; simp only at hs; subst hs; rfl]; exact hx
    | succ j => simp at hj) (by intro u hu; simp at hu; subst hu; rfl) (by omega) (by rw [hz1, hcs']; simp; omega)
  rw [hz1] at hr
  simp only [Nat.mul_one, List.length_singleton] at hr
  have hset : cur.toList.take m ++ [Value.int .u8 x] ++ cur.toList.drop (m + 1) = cur.toList.set m (.int .u8 x) := by
    rw [List.set_eq_take_append_cons_drop, if_pos (by simp; omega)]
    simp
  rw [hset] at hr
  refine ⟨_, hr, ⟨by rw [btV_len, List.length_set]; omega, .inr ⟨g, cap, (cur.toList.set m (.int .u8 x)).toArray, by rw [List.length_set], hb, setRow_heap w g cur _ _ _ hg, by rw [List.length_set]; exact hle, hcm, by simp; omega, ?_⟩⟩, ⟨rfl, rfl, rfl, by simp, fun k hk hn => setRow_other w g k _ (fun e => hn (by rw [e]))⟩⟩
  rw [List.length_set, List.take_set, htk, btV, btV, List.map_set]
theorem grown_trans {w w1 w2 : World} {r : Option Nat} (h : w.grownBy w1 r) (k : w1.grownBy w2 r) : w.grownBy w2 r :=
  ⟨k.os.trans h.os, k.tape.trans h.tape, k.output.trans h.output, Nat.le_trans h.size k.size, fun i hi hn => (k.block i (Nat.lt_of_lt_of_le hi h.size) hn).trans (h.block i hi hn)⟩
/-- A number over other bytes. -/
theorem set_run {L : List Int} {m k : Nat} {n : Int} (h : m + k < L.length) : (L.take m ++ leB k n ++ L.drop (m + k)).set (m + k) (n / 256 ^ k % 256) = L.take m ++ leB (k + 1) n ++ L.drop (m + (k + 1)) := by
  have hl : (L.take m ++ leB k n).length = m + k := by rw [List.length_append, List.length_take, leB_len]; omega
  rw [List.set_append_right _ _ (by omega), hl, Nat.sub_self, List.drop_eq_getElem_cons h, List.set_cons_zero, leB_snoc]
  simp [Nat.add_assoc]
set_option maxHeartbeats 2000000 in
theorem inNumber_any (B : Nat) (g cap : Nat) (L : List Int) (m width : Nat) (n : Int) (w : World) (hB : B ≤ w.heap.size) (hv : OwnB w B (.slice (some ⟨g, 0, none⟩) L.length cap) L) (hw : width ≤ 8) (hm : m + width ≤ L.length) :
    Calls Tryd.prog 33 #[.slice (some ⟨g, 0, none⟩) m cap, .int .i64 n, .int .i64 width] w fun e w' => ∃ v', e = .returned v' ∧ OwnB w' B (.slice (some ⟨g, 0, none⟩) L.length cap) (L.take m ++ leB width n ++ L.drop (m + width)) ∧ w.grownBy w' (some g) := by
  have HV := Lib.hid hv
  have hg := (hv.block g rfl).2
  have HG := Lib.hid hg
  clear hv hg
  go_enter Tryd.func33, Tryd.ntmps33
  go_wp2_with fail
  go_loopw [0, 9] (fun u i wr => ∃ k : Nat, k ≤ width ∧ i = .int .i64 k ∧ u = .slice (some ⟨g, 0, none⟩) (m + k) cap ∧ OwnB wr B (.slice (some ⟨g, 0, none⟩) L.length cap) (L.take m ++ leB k n ++ L.drop (m + k)) ∧ w.grownBy wr (some g)) (fun _ i _ => width - (intOf i).toNat)
  case atStart => exact ⟨0, by omega, rfl, rfl, by simpa [leB] using HV.out, World.grownBy.refl _ _⟩
  case round =>
    obtain ⟨k, hk, rfl, rfl, ho, hgr⟩ := hrel
    have HO := Lib.hid ho
    have HR := Lib.hid hgr
    clear ho hgr
    by_cases h1 : k < width
    · have hsh : (0 : Int) ≤ 8 * (k : Int) := by omega
      have hlen : (L.take m ++ leB k n ++ L.drop (m + k)).length = L.length := by rw [List.length_append, List.length_append, List.length_take, List.length_drop, leB_len]; omega
      have hown : OwnB (wr.alloc (.cells #[.int .u8 (n / 2 ^ (8 * k) % 256)] 5)) B (.slice (some ⟨g, 0, none⟩) (L.take m ++ leB k n ++ L.drop (m + k)).length cap) (L.take m ++ leB k n ++ L.drop (m + k)) := by rw [hlen]; exact HO.out.alloc _
      obtain ⟨w2, hr, ho2, hg2⟩ := hown.splice (m := m + k) (by omega) (n / 2 ^ (8 * k) % 256) 28 ⟨wr.heap.size, 0, none⟩ (row_cells (heap_alloc_new wr _) 0) rfl
      rw [hlen, low8, set_run (by omega)] at ho2
      have HO2 := Lib.hid ho2
      have HG2 := Lib.hid hg2
      clear ho2 hg2 hown hlen
      go_wp2_with (at_builtin; refine wpList_ap rfl (.tmp 12) (.tmp 18) _ _ rfl _ _ _ w2 rfl rfl hr ?_)
      go_roundw
      case rel => 
        refine ⟨k + 1, by omega, by go_num, by rw [Nat.add_assoc], HO2.out, ?_⟩
        exact grown_trans HR.out (grown_trans (World.grownBy_alloc _ _ _) HG2.out)
      case measure => simp [intOf]; omega
    · have hk8 : k = width := by omega
      subst hk8
      go_wp2_with fail
      go_ret
      exact ⟨_, rfl, HO.out, HR.out⟩
set_option maxHeartbeats 2000000 in
theorem closed_any (B : Nat) (v : Value) (l0 body : List Int) (w : World) (hB : B ≤ w.heap.size) (hv : OwnB w B v (l0 ++ (leB 4 0 ++ body))) (hm : l0.length + body.length + 5 ≤ 140737488355328) :
    Calls Tryd.prog 35 #[v, .int .i64 l0.length] w fun e w' => ∃ v', e = .returned v' ∧ Grew B w w' v v' (l0 ++ (leB 4 ((body.length + 5 : Nat) : Int) ++ body ++ [0])) := by
  have HV := Lib.hid hv
  clear hv
  have hlen : (l0 ++ (leB 4 0 ++ body) ++ [0]).length = l0.length + body.length + 5 := by simp [leB_len]; omega
  have HL := Lib.hid hlen
  clear hlen
  go_enter Tryd.func35, Tryd.ntmps35
  go_wp2_with (at_builtin; refine apL _ rfl (.tmp 5) (.tmp 6) rfl B _ _ rfl HV.out [0] _ 1 1 rfl rfl rfl rfl (by simp [leB_len]; omega) hB ?_; intro v1 w1 hg1; obtain ⟨g, cap, hv1, hcap⟩ := hg1.own.form (by rw [HL.out]; omega); rw [HL.out] at hv1 hcap; subst hv1; have G1 := Lib.hid hg1; clear hg1)
  have ho := G1.out.own
  rw [← HL.out] at ho
  refine (inNumber_any B g cap (l0 ++ (leB 4 0 ++ body) ++ [0]) l0.length 4 ((l0.length : Int) + (body.length : Int) + 5 - (l0.length : Int)) w1 (Nat.le_trans hB G1.out.size) ho (by omega) (by have := HL.out; omega)).mono ?_
  rintro e w2 ⟨v2, rfl, ho2, hg2⟩
  have he : (l0 ++ (leB 4 0 ++ body) ++ [0]).take l0.length ++ leB 4 ((l0.length : Int) + (body.length : Int) + 5 - (l0.length : Int)) ++ (l0 ++ (leB 4 0 ++ body) ++ [0]).drop (l0.length + 4) = l0 ++ (leB 4 ((body.length + 5 : Nat) : Int) ++ body ++ [0]) := by
    have hd : (l0 ++ (leB 4 0 ++ body) ++ [0]).drop (l0.length + 4) = body ++ [0] := by
      rw [show l0 ++ (leB 4 0 ++ body) ++ [0] = (l0 ++ leB 4 0) ++ (body ++ [0]) by simp]
      exact List.drop_left' (by simp [leB_len])
    have ht : (l0 ++ (leB 4 0 ++ body) ++ [0]).take l0.length = l0 := by
      rw [List.append_assoc]
      exact List.take_left' rfl
    rw [hd, ht, show (l0.length : Int) + (body.length : Int) + 5 - (l0.length : Int) = ((body.length + 5 : Nat) : Int) by omega]
    simp
  rw [he, HL.out] at ho2
  have hl2 : (l0 ++ (leB 4 ((body.length + 5 : Nat) : Int) ++ body ++ [0])).length = l0.length + body.length + 5 := by simp [leB_len]; omega
  have G2 := Lib.hid (G1.out.trans ⟨ho2, hg2, .inl rfl⟩)
  clear ho ho2 hg2 he hl2
  go_wp2_with fail
  go_ret
  exact ⟨_, rfl, G2.out⟩
end Go.Proofs.YtjfgmcmnpekahaaDoor
namespace Go.Proofs.YtjfgmcmnpekahaaDoor
open Go.RowKit
set_option maxRecDepth 100000

theorem Env2.below {w w' : World} {B : Nat} (h : Env2 w B) (hb : Below B w w') : Env2 w' B :=
  h.only (S := List.range' B (w.heap.size - B)) ⟨hb.os, hb.tape, hb.output, hb.size, fun k hk hn => hb.block k (by
    rcases Nat.lt_or_ge k B with h1 | h1
    · exact h1
    · exact absurd (List.mem_range'_1.2 ⟨h1, by omega⟩) hn)⟩ (fun b hb => (List.mem_range'_1.1 hb).1)
theorem T.In.low {w w' : World} {t : T} {B : Nat} (h : t.In w) (hlow : ∀ p ∈ t.places, p.1.block < B) (hb : Below B w w') : t.In w' := h.keep fun p hp => hb.cell (hlow p hp)
theorem InL.low {w w' : World} {a : Option Addr} {l : List T} {B : Nat} (h : InL w a l) (hlow : ∀ p ∈ T.placesL a 0 l, p.1.block < B) (hb : Below B w w') : InL w' a l := fun p hp => (hb.cell (hlow p hp)).trans (h p hp)
theorem InD.low {w w' : World} {a : Option Addr} {l : List (ByteArray × T)} {B : Nat} (h : InD w a l) (hlow : ∀ p ∈ T.placesD a 0 l, p.1.block < B) (hb : Below B w w') : InD w' a l := fun p hp => (hb.cell (hlow p hp)).trans (h p hp)
theorem Grew.below0 {B : Nat} {w w' : World} {v v' : Value} {l l' : List Int} (h : Grew B w w' v v' l') (hv : OwnB w B v l) (hB : B ≤ w.heap.size) : Below B w w' := h.below hv (Below.refl _ _) (Nat.le_refl _) hB
/-- A field's bytes. -/
def encF (s : ByteArray) (x : V) : List Int := kByte x :: (bsI s ++ 0 :: encV x)
def EncAt (t : T) : Prop := ∀ (B : Nat) (v : Value) (l : List Int) (w : World) (deep : Int), B ≤ w.heap.size → OwnB w B v l → l.length + (encV t.val).length ≤ 140737488351232 → t.In w → (∀ p ∈ t.places, p.1.block < B) → rightV deep t.val = 0 → Env2 w B →
    Calls Tryd.prog 53 #[v, t.arg] w fun e w' => ∃ v', e = .returned v' ∧ Grew B w w' v v' (l ++ encV t.val)
theorem right_kind {deep k n : Int} {s : ByteArray} {l : List V} {d : List (ByteArray × V)} (h : rightV deep (.mk k n s l d) = 0) : 1 ≤ k ∧ k ≤ 11 := by
  obtain ⟨⟨-, hf⟩, -, -⟩ := right_parts h
  rw [fitsV] at hf
  split at hf
  · omega
  split at hf
  · omega
  split at hf
  · omega
  simp at hf
  exact hf
set_option maxHeartbeats 4000000 in
theorem appField_any (t : T) (ih : EncAt t) (s : ByteArray) (B : Nat) (v : Value) (l : List Int) (w : World) (deep : Int) (hB : B ≤ w.heap.size) (hv : OwnB w B v l) (hl : l.length + (encF s t.val).length ≤ 140737488351232) (hin : t.In w) (hlow : ∀ p ∈ t.places, p.1.block < B) (hr : rightV deep t.val = 0) (hE : Env2 w B) :
    Calls Tryd.prog 34 #[v, .string s, t.arg] w fun e w' => ∃ v', e = .returned v' ∧ Grew B w w' v v' (l ++ encF s t.val) := by
  obtain ⟨kx, nx, sx, lax, lcx, lx, dax, dcx, dx⟩ := t
  obtain ⟨k1, k11⟩ := right_kind (by rw [T.val_mk] at hr; exact hr)
  obtain ⟨k, rfl⟩ : ∃ k : Nat, kx = k := ⟨kx.toNat, by omega⟩
  obtain ⟨c, hc⟩ : ∃ c, kindB[k]? = some c := ⟨_, List.getElem?_eq_getElem (by simp [kindB]; omega)⟩
  have hkb : kByte (T.val (.mk k nx sx lax lcx lx dax dcx dx)) = c := by
    rw [T.val_mk, kByte, Int.toNat_natCast, List.getD_eq_getElem?_getD, hc]
    rfl
  have hlen : (encF s (T.val (.mk k nx sx lax lcx lx dax dcx dx))).length = s.size + 2 + (encV (T.val (.mk k nx sx lax lcx lx dax dcx dx))).length := by
    rw [encF, List.length_cons, List.length_append, List.length_cons, bsI_len]; omega
  rw [hlen] at hl
  show Calls _ _ #[v, .string s, .agg #[.int .i64 k, .int .i64 nx, .string sx, .slice lax lx.length lcx, .slice dax dx.length dcx]] _ _
  have hcd := hE.codes k c hc
  have h0B := hE.low 0 (.inl rfl)
  have hcu : (w.alloc (.cells #[.int .i64 k, .int .i64 nx, .string sx, .slice lax lx.length lcx, .slice dax dx.length dcx] 25)).cell? ⟨0, k, none⟩ = some (.int .u8 c) := ((below1 w _).cell (cell_lt hcd)).trans hcd
  have HV := Lib.hid hv
  have HI := Lib.hid (And.intro ih (And.intro hin (And.intro hlow (And.intro hr hE))))
  have HK := Lib.hid hkb
  have HL := Lib.hid hl
  have hk12 : (k : Int) < 12 := by omega
  clear hv ih hin hlow hr hE hkb hlen hl hcd hc
  go_enter Tryd.func34, Tryd.ntmps34
  go_wp2_with (first
    | (at_builtin; refine apL _ rfl (.tmp 7) (.tmp 12) rfl B v _ rfl (HV.out.alloc _) [c] _ 1 1 rfl (by simp) rfl rfl (by have := HL.out; omega) (Nat.le_trans hB (below1 _ _).size) ?_; intro v1 w1 hg1; have r1 := hg1.row (heap_alloc_new w _) HV.out.behind; have G1 := Lib.hid (hg1.pre (below1 _ _)); have R1 := Lib.hid (And.intro r1 (hg1.off (by simp) HV.out.behind)); clear hg1 r1)
    | (at_builtin; refine apS rfl (.tmp 14) (.tmp 15) rfl B v1 _ rfl G1.out.own s rfl (by rw [List.length_append, List.length_singleton]; have := HL.out; omega) (Nat.le_trans hB G1.out.size) ?_; intro v2 w2 hg2; have r2 := hg2.row R1.out.1 R1.out.2; have c2 := row_cells r2; have R2 := Lib.hid (And.intro r2 (hg2.off (lt_of_block R1.out.1) R1.out.2)); have G2 := Lib.hid (G1.out.trans hg2); clear hg2 r2))
  clear hcu
  go_region_held3 (fun w' => w'.cell? ⟨w.heap.size, 0, none⟩ = some (.int .i64 k) ∧ w'.cell? ⟨w.heap.size, 1, none⟩ = some (.int .i64 nx) ∧ w'.cell? ⟨w.heap.size, 2, none⟩ = some (.string sx) ∧ w'.cell? ⟨w.heap.size, 3, none⟩ = some (.slice lax lx.length lcx) ∧ w'.cell? ⟨w.heap.size, 4, none⟩ = some (.slice dax dx.length dcx))
    (go_keep)
    (first
      | (refine stL _ rfl (.tmp 17) (.tmp 18) rfl B v2 _ rfl G2.out.own.drew [0] _ 1 1 rfl (by simp) rfl rfl (by have := HL.out; rw [List.length_append, List.length_append, List.length_singleton, bsI_len]; omega) (Nat.le_trans hB G2.out.size) ?_; intro v3 w3 hg3; have r3 : w3.heap[w.heap.size]? = some (.cells #[.int .i64 k, .int .i64 nx, .string sx, .slice lax lx.length lcx, .slice dax dx.length dcx] 25 (0, 0)) := hg3.row R2.out.1 R2.out.2; have c3 := row_cells r3; have R3 := Lib.hid (And.intro r3 (hg3.off (g := w.heap.size) (lt_of_block R2.out.1) R2.out.2)); have G3 := Lib.hid (G2.out.trans (hg3.pre (Below.refl _ _).drew)); clear hg3 r3)
      | (go_at_call 53; refine (HI.out.1 B v3 _ w3 deep ?_ G3.out.own ?_ ?_ HI.out.2.2.1 HI.out.2.2.2.1 ?_).mono ?_; (exact Nat.le_trans hB G3.out.size); (have := HL.out; rw [List.length_append, List.length_append, List.length_append, List.length_singleton, List.length_singleton, bsI_len]; omega); (exact HI.out.2.1.low HI.out.2.2.1 (G3.out.below0 HV.out hB)); (exact HI.out.2.2.2.2.below (G3.out.below0 HV.out hB)); rintro e w4 ⟨v4, rfl, hg4⟩; have c4 := row_cells (hg4.row R3.out.1 R3.out.2); have G4 := Lib.hid (G3.out.trans hg4); clear hg4))
  go_wp2_with fail
  go_ret
  have h := G4.out
  refine ⟨_, rfl, ?_⟩
  rw [encF, HK.out]
  simpa using h
end Go.Proofs.YtjfgmcmnpekahaaDoor
namespace Go.Proofs.YtjfgmcmnpekahaaDoor
open Go.RowKit
set_option maxRecDepth 100000

theorem drop_drewB {w w' : World} (h : Below w.drew.heap.size w.drew w') : Below w.heap.size w w' := ⟨h.os, h.tape, h.output, h.size, h.block⟩
theorem encD_append : ∀ (a b : List (ByteArray × V)), encD (a ++ b) = encD a ++ encD b := by
  intro a
  induction a with
  | nil => intro b; simp [encD]
  | cons x r ih => intro b; obtain ⟨s, x⟩ := x; simp [encD, ih]
theorem encL_append : ∀ (a b : List V) (i : Nat), encL i (a ++ b) = encL i a ++ encL (i + a.length) b := by
  intro a
  induction a with
  | nil => intro b i; simp [encL]
  | cons x r ih => intro b i; simp [encL, ih]; rw [show i + 1 + r.length = i + (r.length + 1) by omega]
theorem encD_step {l : List (ByteArray × V)} {k : Nat} {x : ByteArray × V} (h : l[k]? = some x) : encD (l.take (k + 1)) = encD (l.take k) ++ encF x.1 x.2 := by
  obtain ⟨s, x⟩ := x
  rw [List.take_add_one, h, encD_append]
  simp [encD, encF]
theorem encL_step {l : List V} {k : Nat} {x : V} (h : l[k]? = some x) : encL 0 (l.take (k + 1)) = encL 0 (l.take k) ++ encF (itoaB k) x := by
  have hk := lt_of_get h
  rw [List.take_add_one, h, encL_append, List.length_take, Nat.min_eq_left (by omega)]
  simp [encL, encF]
theorem encD_room {l : List (ByteArray × V)} {k : Nat} {x : ByteArray × V} (h : l[k]? = some x) : (encD (l.take k)).length + (encF x.1 x.2).length ≤ (encD l).length := by
  have h1 := congrArg List.length (encD_step h)
  have h2 := congrArg List.length (congrArg encD (List.take_append_drop (k + 1) l))
  rw [encD_append, List.length_append] at h2
  rw [List.length_append] at h1
  omega
theorem encL_room {l : List V} {k : Nat} {x : V} (h : l[k]? = some x) : (encL 0 (l.take k)).length + (encF (itoaB k) x).length ≤ (encL 0 l).length := by
  have h1 := congrArg List.length (encL_step h)
  have h2 := congrArg List.length (congrArg (encL 0) (List.take_append_drop (k + 1) l))
  rw [encL_append, List.length_append] at h2
  rw [List.length_append] at h1
  omega
set_option maxHeartbeats 4000000 in
theorem appDoc_any (B : Nat) (v : Value) (l0 : List Int) (la : Option Addr) (ca : Nat) (l : List (ByteArray × T)) (w : World) (deep : Int) (hB : B ≤ w.heap.size) (hv : OwnB w B v l0) (hl : l0.length + (encD (l.map fun f => (f.1, f.2.val))).length + 5 ≤ 140737488351232) (ha : InD w la l)
    (hlow : ∀ p ∈ T.placesD la 0 l, p.1.block < B) (hn : l.length ≤ 1759218604390) (ih : ∀ x ∈ l, EncAt x.2) (hr : ∀ x ∈ l, rightV deep x.2.val = 0) (hE : Env2 w B) :
    Calls Tryd.prog 26 #[v, .slice la l.length ca] w fun e w' => ∃ v', e = .returned v' ∧ Grew B w w' v v' (l0 ++ (leB 4 (((encD (l.map fun f => (f.1, f.2.val))).length + 5 : Nat) : Int) ++ encD (l.map fun f => (f.1, f.2.val)) ++ [0])) := by
  obtain ⟨a0, c0, rfl, -⟩ := hv.shape
  have HV := Lib.hid hv
  have HA := Lib.hid (And.intro ha (And.intro hlow (And.intro hr hE)))
  have IH := Lib.hid ih
  have HL := Lib.hid hl
  clear hv ha hlow ih hl hr hE
  go_enter Tryd.func26, Tryd.ntmps26
  go_wp2_with fail
  refine (apNumber_any B _ 4 0 l0 w hB HV.out (by omega) (by have := HL.out; omega)).mono ?_
  rintro e w1 ⟨v1, rfl, hg1⟩
  have G1 := Lib.hid hg1
  clear hg1
  go_wp2_with fail
  go_loopw [0, 14] (fun u i wr => ∃ k : Nat, k ≤ l.length ∧ i = .int .i64 k ∧ Grew B w wr (.slice a0 l0.length c0) u (l0 ++ (leB 4 0 ++ encD ((l.map fun f => (f.1, f.2.val)).take k)))) (fun _ i _ => l.length - (intOf i).toNat)
  case atStart => exact ⟨0, by omega, rfl, by simpa [encD] using G1.out⟩
  case round =>
    clear G1
    obtain ⟨k, hk, rfl, hg⟩ := hrel
    have HG := Lib.hid hg
    have hz := Nat.le_trans hB hg.size
    have hin := HA.out.1.low HA.out.2.1 (hg.below0 HV.out hB)
    clear hg
    by_cases h1 : k < l.length
    · obtain ⟨b, o, f1, k1, n1, s1, la1, lc1, l1, da1, dc1, d1, rfl, hx, hix, x0, x1, x2, x3, x4, x5⟩ := hin.six h1
      have hvx : (l.map fun f => (f.1, f.2.val))[k]? = some (f1, T.val (.mk k1 n1 s1 la1 lc1 l1 da1 dc1 d1)) := by rw [List.getElem?_map, hx]; rfl
      have HR := Lib.hid (show (encD ((l.map fun f => (f.1, f.2.val)).take k)).length + (encF f1 (T.val (.mk k1 n1 s1 la1 lc1 l1 da1 dc1 d1))).length ≤ (encD (l.map fun f => (f.1, f.2.val))).length from encD_room hvx)
      have HS := Lib.hid (encD_step hvx)
      have H := Lib.hid (And.intro (IH.out _ (List.mem_of_getElem? hx)) (And.intro (fun p (hp : p ∈ T.places (.mk k1 n1 s1 la1 lc1 l1 da1 dc1 d1)) => HA.out.2.1 p ((T.mem_placesD _ _ _ _).2 ⟨k, _, hx, .inr hp⟩)) (HA.out.2.2.1 _ (List.mem_of_getElem? hx))))
      have HX := Lib.hid hix
      clear hx hix hin hvx
      go_wp2_with (first
        | (go_at_call 34; refine (appField_any (.mk k1 n1 s1 la1 lc1 l1 da1 dc1 d1) H.out.1 f1 B _ _ _ deep ?_ (HG.out.own.alloc _) ?_ (HX.out.then_ (below1 _ _)) H.out.2.1 H.out.2.2 ?_).mono ?_; (exact Nat.le_trans hz (below1 _ _).size); (have := HL.out; have := HR.out; rw [List.length_append, List.length_append, leB_len]; omega); (exact (HA.out.2.2.2.below (HG.out.below0 HV.out hB)).then_ (below1 _ _)); rintro e w3 ⟨v3, rfl, hg3⟩; have G3 := Lib.hid (HG.out.trans (hg3.pre (below1 _ _))); clear hg3))
      go_roundw
      case rel =>
        refine ⟨k + 1, by omega, by go_num, ?_⟩
        have h := G3.out
        rw [List.append_assoc, List.append_assoc] at h
        rw [HS.out]
        exact h
      case measure => simp [intOf]; omega
    · have hke : (l.map fun f => (f.1, f.2.val)).take k = l.map fun f => (f.1, f.2.val) := List.take_of_length_le (by rw [List.length_map]; omega)
      have hg2 := HG.out
      rw [hke] at hg2
      have G2 := Lib.hid hg2
      clear hg2 hke HG
      go_wp2_with fail
      refine (closed_any B _ l0 (encD (l.map fun f => (f.1, f.2.val))) wr hz G2.out.own (by have := HL.out; omega)).mono ?_
      rintro e w3 ⟨v3, rfl, hg3⟩
      have G3 := Lib.hid (G2.out.trans hg3)
      clear hg3
      go_wp2_with fail
      go_ret
      exact ⟨_, rfl, G3.out⟩
set_option maxHeartbeats 4000000 in
theorem appList_any (B : Nat) (v : Value) (l0 : List Int) (la : Option Addr) (ca : Nat) (l : List T) (w : World) (deep : Int) (hB : B ≤ w.heap.size) (hv : OwnB w B v l0) (hl : l0.length + (encL 0 (l.map T.val)).length + 5 ≤ 140737488351232) (ha : InL w la l)
    (hlow : ∀ p ∈ T.placesL la 0 l, p.1.block < B) (hn : l.length ≤ 1759218604390) (ih : ∀ x ∈ l, EncAt x) (hr : ∀ x ∈ l, rightV deep x.val = 0) (hE : Env2 w B) :
    Calls Tryd.prog 68 #[v, .slice la l.length ca] w fun e w' => ∃ v', e = .returned v' ∧ Grew B w w' v v' (l0 ++ (leB 4 (((encL 0 (l.map T.val)).length + 5 : Nat) : Int) ++ encL 0 (l.map T.val) ++ [0])) := by
  obtain ⟨a0, c0, rfl, -⟩ := hv.shape
  have HV := Lib.hid hv
  have HA := Lib.hid (And.intro ha (And.intro hlow (And.intro hr hE)))
  have IH := Lib.hid ih
  have HL := Lib.hid hl
  clear hv ha hlow ih hl hr hE
  go_enter Tryd.func68, Tryd.ntmps68
  go_wp2_with fail
  refine (apNumber_any B _ 4 0 l0 w hB HV.out (by omega) (by have := HL.out; omega)).mono ?_
  rintro e w1 ⟨v1, rfl, hg1⟩
  have G1 := Lib.hid hg1
  clear hg1
  go_wp2_with fail
  go_loopw [0, 6, 14] (fun u _ i wr => ∃ k : Nat, k ≤ l.length ∧ i = .int .i64 k ∧ Grew B w wr (.slice a0 l0.length c0) u (l0 ++ (leB 4 0 ++ encL 0 ((l.map T.val).take k)))) (fun _ _ i _ => l.length - (intOf i).toNat)
  case atStart => exact ⟨0, by omega, rfl, by simpa [encL] using G1.out⟩
  case round =>
    clear G1
    obtain ⟨k, hk, rfl, hg⟩ := hrel
    have HG := Lib.hid hg
    have hz := Nat.le_trans hB hg.size
    have hin := HA.out.1.low HA.out.2.1 (hg.below0 HV.out hB)
    clear hg
    by_cases h1 : k < l.length
    · obtain ⟨b, o, k1, n1, s1, la1, lc1, l1, da1, dc1, d1, rfl, hx, hix, x0, x1, x2, x3, x4⟩ := hin.five h1
      have hvx : (l.map T.val)[k]? = some (T.val (.mk k1 n1 s1 la1 lc1 l1 da1 dc1 d1)) := by rw [List.getElem?_map, hx]; rfl
      have HR := Lib.hid (encL_room hvx)
      have HS := Lib.hid (encL_step hvx)
      have H := Lib.hid (And.intro (IH.out _ (List.mem_of_getElem? hx)) (And.intro (fun p (hp : p ∈ T.places (.mk k1 n1 s1 la1 lc1 l1 da1 dc1 d1)) => HA.out.2.1 p ((T.mem_placesL _ _ _ _).2 ⟨k, _, hx, .inr hp⟩)) (HA.out.2.2.1 _ (List.mem_of_getElem? hx))))
      have HX := Lib.hid hix
      have HI := Lib.hid (itoa_any (w := (wr.alloc (.cells #[.int .i64 k1, .int .i64 n1, .string s1, .slice la1 l1.length lc1, .slice da1 d1.length dc1] 25)).drew) (B := B) ((HA.out.2.2.2.below (HG.out.below0 HV.out hB)).then_ (below1 _ _)).drew k (by omega))
      have hbx := heap_alloc_new wr (.cells #[.int .i64 k1, .int .i64 n1, .string s1, .slice la1 l1.length lc1, .slice da1 d1.length dc1] 25)
      have HBX := Lib.hid hbx
      clear hx hix hin hvx hbx
      go_wp2_with fail
      go_region_held3 (fun w' => w'.cell? ⟨wr.heap.size, 0, none⟩ = some (.int .i64 k1) ∧ w'.cell? ⟨wr.heap.size, 1, none⟩ = some (.int .i64 n1) ∧ w'.cell? ⟨wr.heap.size, 2, none⟩ = some (.string s1) ∧ w'.cell? ⟨wr.heap.size, 3, none⟩ = some (.slice la1 l1.length lc1) ∧ w'.cell? ⟨wr.heap.size, 4, none⟩ = some (.slice da1 d1.length dc1))
        (go_keep)
        (first
          | (go_at_call 41; refine HI.out.mono ?_; rintro e w2 ⟨rfl, b2'⟩; have r2 : w2.heap[wr.heap.size]? = some (.cells #[.int .i64 k1, .int .i64 n1, .string s1, .slice la1 l1.length lc1, .slice da1 d1.length dc1] 25 (0, 0)) := row_then HBX.out (drop_drewB b2'); have c2 := row_cells r2; have R2 := Lib.hid (And.intro r2 (below_then (below1 wr _) (drop_drewB b2'))); clear b2' r2)
          | (go_at_call 34; refine (appField_any (.mk k1 n1 s1 la1 lc1 l1 da1 dc1 d1) H.out.1 (itoaB k) B _ _ w2 deep ?_ (HG.out.own.then_ R2.out.2) ?_ (HX.out.then_ R2.out.2) H.out.2.1 H.out.2.2 ?_).mono ?_; (exact Nat.le_trans hz R2.out.2.size); (have := HL.out; have := HR.out; rw [List.length_append, List.length_append, leB_len]; omega); (exact (HA.out.2.2.2.below (HG.out.below0 HV.out hB)).then_ R2.out.2); rintro e w3 ⟨v3, rfl, hg3⟩; have c3 := row_cells (hg3.row R2.out.1 (fun b hb e => by have := (HG.out.own.block b hb).2; omega)); have G3 := Lib.hid (HG.out.trans (hg3.pre R2.out.2)); clear hg3))
      go_wp2_with fail
      go_roundw
      case rel =>
        refine ⟨k + 1, by omega, by go_num, ?_⟩
        have h := G3.out
        rw [List.append_assoc, List.append_assoc] at h
        rw [HS.out]
        exact h
      case measure => simp [intOf]; omega
    · have hke : (l.map T.val).take k = l.map T.val := List.take_of_length_le (by rw [List.length_map]; omega)
      have hg2 := HG.out
      rw [hke] at hg2
      have G2 := Lib.hid hg2
      clear hg2 hke HG
      go_wp2_with fail
      refine (closed_any B _ l0 (encL 0 (l.map T.val)) wr hz G2.out.own (by have := HL.out; omega)).mono ?_
      rintro e w3 ⟨v3, rfl, hg3⟩
      have G3 := Lib.hid (G2.out.trans hg3)
      clear hg3
      go_wp2_with fail
      go_ret
      exact ⟨_, rfl, G3.out⟩
end Go.Proofs.YtjfgmcmnpekahaaDoor
namespace Go.Proofs.YtjfgmcmnpekahaaDoor
open Go.RowKit
set_option maxRecDepth 100000

set_option maxHeartbeats 2000000 in
theorem encText_case (n : Int) (s : ByteArray) (la : Option Addr) (lc ln : Nat) (da : Option Addr) (dc dn : Nat) (B : Nat) (v : Value) (l : List Int) (w : World) (hB : B ≤ w.heap.size) (hv : OwnB w B v l) (hl : l.length + s.size + 5 ≤ 140737488351232) :
    Calls Tryd.prog 53 #[v, .agg #[.int .i64 4, .int .i64 n, .string s, .slice la ln lc, .slice da dn dc]] w fun e w' => ∃ v', e = .returned v' ∧ Grew B w w' v v' (l ++ (leB 4 (s.size + 1) ++ bsI s ++ [0])) := by
  have HV := Lib.hid hv
  have HL := Lib.hid hl
  clear hv
  go_enter Tryd.func53, Tryd.ntmps53
  go_wp2_with (first
    | (go_at_call 33; refine (apNumber_any B v 4 _ l _ ?_ (HV.out.alloc _) (by omega) ?_).mono ?_; (exact Nat.le_trans hB (below1 _ _).size); (omega); rintro e w1 ⟨v1, rfl, hg1⟩; have c1 := row_cells (hg1.row (heap_alloc_new w _) HV.out.behind); have G1 := Lib.hid (hg1.pre (below1 _ _)); clear hg1)
    | (at_builtin; refine apS rfl (.tmp 15) (.tmp 17) rfl B v1 _ rfl G1.out.own s rfl (by rw [List.length_append, leB_len]; omega) (Nat.le_trans hB G1.out.size) ?_; intro v2 w2 hg2; have G2 := Lib.hid (G1.out.trans hg2); clear hg2)
    | (at_builtin; refine apL _ rfl (.tmp 18) (.tmp 19) rfl B v2 _ rfl G2.out.own [0] _ 1 1 rfl rfl rfl rfl (by rw [List.length_append, List.length_append, leB_len, bsI_len]; omega) (Nat.le_trans hB G2.out.size) ?_; intro v3 w3 hg3; have G3 := Lib.hid (G2.out.trans hg3); clear hg3))
  go_ret
  have h := G3.out
  rw [List.append_assoc, List.append_assoc] at h
  exact ⟨_, rfl, by rw [List.append_assoc]; exact h⟩
set_option maxHeartbeats 2000000 in
theorem encBlob_case (n : Int) (s : ByteArray) (la : Option Addr) (lc ln : Nat) (da : Option Addr) (dc dn : Nat) (B : Nat) (v : Value) (l : List Int) (w : World) (hB : B ≤ w.heap.size) (hv : OwnB w B v l) (hl : l.length + s.size + 5 ≤ 140737488351232) :
    Calls Tryd.prog 53 #[v, .agg #[.int .i64 7, .int .i64 n, .string s, .slice la ln lc, .slice da dn dc]] w fun e w' => ∃ v', e = .returned v' ∧ Grew B w w' v v' (l ++ (leB 4 s.size ++ [0] ++ bsI s)) := by
  have HV := Lib.hid hv
  have HL := Lib.hid hl
  clear hv
  go_enter Tryd.func53, Tryd.ntmps53
  go_wp2_with (first
    | (go_at_call 33; refine (apNumber_any B v 4 _ l _ ?_ (HV.out.alloc _) (by omega) ?_).mono ?_; (exact Nat.le_trans hB (below1 _ _).size); (omega); rintro e w1 ⟨v1, rfl, hg1⟩; have r1 := hg1.row (heap_alloc_new w _) HV.out.behind; have R1 := Lib.hid (And.intro r1 (hg1.off (g := w.heap.size) (by simp) HV.out.behind)); have G1 := Lib.hid (hg1.pre (below1 _ _)); clear hg1 r1)
    | (at_builtin; refine apL _ rfl (.tmp 39) (.tmp 40) rfl B v1 _ rfl G1.out.own [0] _ 1 1 rfl rfl rfl rfl (by rw [List.length_append, leB_len]; omega) (Nat.le_trans hB G1.out.size) ?_; intro v2 w2 hg2; have c2 := row_cells (hg2.row R1.out.1 R1.out.2); have G2 := Lib.hid (G1.out.trans hg2); clear hg2)
    | (at_builtin; refine apS rfl (.tmp 42) (.tmp 44) rfl B v2 _ rfl G2.out.own s rfl (by rw [List.length_append, List.length_append, List.length_singleton, leB_len]; omega) (Nat.le_trans hB G2.out.size) ?_; intro v3 w3 hg3; have G3 := Lib.hid (G2.out.trans hg3); clear hg3))
  go_ret
  have h := G3.out
  rw [List.append_assoc, List.append_assoc] at h
  exact ⟨_, rfl, by rw [List.append_assoc]; exact h⟩
set_option maxHeartbeats 2000000 in
theorem encId_case (n : Int) (s : ByteArray) (la : Option Addr) (lc ln : Nat) (da : Option Addr) (dc dn : Nat) (B : Nat) (v : Value) (l : List Int) (w : World) (hB : B ≤ w.heap.size) (hv : OwnB w B v l) (hl : l.length + s.size ≤ 140737488351232) :
    Calls Tryd.prog 53 #[v, .agg #[.int .i64 8, .int .i64 n, .string s, .slice la ln lc, .slice da dn dc]] w fun e w' => ∃ v', e = .returned v' ∧ Grew B w w' v v' (l ++ bsI s) := by
  have HV := Lib.hid hv
  clear hv
  go_enter Tryd.func53, Tryd.ntmps53
  go_wp2_with (first
    | (at_builtin; refine apS rfl (.tmp 48) (.tmp 50) rfl B v _ rfl (HV.out.alloc _) s rfl (by omega) (Nat.le_trans hB (below1 _ _).size) ?_; intro v2 w2 hg2; have G2 := Lib.hid (hg2.pre (below1 _ _)); clear hg2))
  go_ret
  exact ⟨_, rfl, G2.out⟩
set_option maxHeartbeats 2000000 in
theorem encBool_case (n : Int) (s : ByteArray) (la : Option Addr) (lc ln : Nat) (da : Option Addr) (dc dn : Nat) (B : Nat) (v : Value) (l : List Int) (w : World) (hB : B ≤ w.heap.size) (hv : OwnB w B v l) (hl : l.length + 1 ≤ 140737488351232) (hn : 0 ≤ n ∧ n ≤ 1) :
    Calls Tryd.prog 53 #[v, .agg #[.int .i64 9, .int .i64 n, .string s, .slice la ln lc, .slice da dn dc]] w fun e w' => ∃ v', e = .returned v' ∧ Grew B w w' v v' (l ++ [n]) := by
  have HV := Lib.hid hv
  have hm : n % 256 = n := by omega
  have HM := Lib.hid hm
  clear hv hm hn
  go_enter Tryd.func53, Tryd.ntmps53
  go_wp2_with (first
    | (at_builtin; refine apL _ rfl (.tmp 54) (.tmp 58) rfl B v _ rfl (HV.out.alloc _) [_] _ 1 1 rfl (by simp) rfl rfl (by omega) (Nat.le_trans hB (below1 _ _).size) ?_; intro v2 w2 hg2; have G2 := Lib.hid (hg2.pre (below1 _ _)); clear hg2))
  go_ret
  have h := G2.out
  rw [HM.out] at h
  exact ⟨_, rfl, h⟩
set_option maxHeartbeats 2000000 in
theorem encNum_case (k n : Int) (s : ByteArray) (la : Option Addr) (lc ln : Nat) (da : Option Addr) (dc dn : Nat) (hk : k = 3 ∨ k = 10) (B : Nat) (v : Value) (l : List Int) (w : World) (hB : B ≤ w.heap.size) (hv : OwnB w B v l) (hl : l.length + 8 ≤ 140737488351232) :
    Calls Tryd.prog 53 #[v, .agg #[.int .i64 k, .int .i64 n, .string s, .slice la ln lc, .slice da dn dc]] w fun e w' => ∃ v', e = .returned v' ∧ Grew B w w' v v' (l ++ leB 8 n) := by
  have HV := Lib.hid hv
  clear hv
  rcases hk with rfl | rfl
  all_goals (
    go_enter Tryd.func53, Tryd.ntmps53
    go_wp2_with (first
      | (go_at_call 33; refine (apNumber_any B v 8 _ l _ ?_ (HV.out.alloc _) (by omega) ?_).mono ?_; (exact Nat.le_trans hB (below1 _ _).size); (omega); rintro e w1 ⟨v1, rfl, hg1⟩; have G1 := Lib.hid (hg1.pre (below1 _ _)); clear hg1))
    go_ret
    exact ⟨_, rfl, G1.out⟩)
set_option maxHeartbeats 2000000 in
theorem encPlain_case (k n : Int) (s : ByteArray) (la : Option Addr) (lc ln : Nat) (da : Option Addr) (dc dn : Nat) (hk : k = 1 ∨ k = 2 ∨ k = 11) (B : Nat) (v : Value) (l : List Int) (w : World) (hv : OwnB w B v l) :
    Calls Tryd.prog 53 #[v, .agg #[.int .i64 k, .int .i64 n, .string s, .slice la ln lc, .slice da dn dc]] w fun e w' => ∃ v', e = .returned v' ∧ Grew B w w' v v' l := by
  have HV := Lib.hid hv
  clear hv
  rcases hk with rfl | rfl | rfl
  all_goals (
    go_enter Tryd.func53, Tryd.ntmps53
    go_wp2_with fail
    go_ret
    exact ⟨_, rfl, (Grew.refl HV.out).post (below1 _ _)⟩)
set_option maxHeartbeats 2000000 in
theorem encL_case (n : Int) (s : ByteArray) (la : Option Addr) (lc : Nat) (l : List T) (da : Option Addr) (dc dn : Nat) (B : Nat) (v : Value) (l0 : List Int) (w : World) (deep : Int) (hB : B ≤ w.heap.size) (hv : OwnB w B v l0) (hl : l0.length + (encL 0 (l.map T.val)).length + 5 ≤ 140737488351232) (ha : InL w la l)
    (hlow : ∀ p ∈ T.placesL la 0 l, p.1.block < B) (hn : l.length ≤ 1759218604390) (ih : ∀ x ∈ l, EncAt x) (hr : ∀ x ∈ l, rightV deep x.val = 0) (hE : Env2 w B) :
    Calls Tryd.prog 53 #[v, .agg #[.int .i64 6, .int .i64 n, .string s, .slice la l.length lc, .slice da dn dc]] w fun e w' => ∃ v', e = .returned v' ∧ Grew B w w' v v' (l0 ++ (leB 4 (((encL 0 (l.map T.val)).length + 5 : Nat) : Int) ++ encL 0 (l.map T.val) ++ [0])) := by
  have HV := Lib.hid hv
  have HA := Lib.hid (And.intro ha (And.intro hlow (And.intro hr hE)))
  have IH := Lib.hid ih
  clear hv ha hlow ih hr hE
  go_enter Tryd.func53, Tryd.ntmps53
  go_wp2_with (first
    | (go_at_call 68; refine (appList_any B v l0 la lc l _ deep ?_ (HV.out.alloc _) hl ?_ HA.out.2.1 hn IH.out HA.out.2.2.1 (HA.out.2.2.2.then_ (below1 _ _))).mono ?_; (exact Nat.le_trans hB (below1 _ _).size); (exact fun p hp => ((below1 w _).cell (cell_lt (HA.out.1 p hp))).trans (HA.out.1 p hp)); rintro e w2 ⟨v2, rfl, hg2⟩; have G2 := Lib.hid (hg2.pre (below1 _ _)); clear hg2))
  go_ret
  exact ⟨_, rfl, G2.out⟩
set_option maxHeartbeats 2000000 in
theorem encD_case (n : Int) (s : ByteArray) (la : Option Addr) (lc : Nat) (l : List (ByteArray × T)) (da : Option Addr) (dc dn : Nat) (B : Nat) (v : Value) (l0 : List Int) (w : World) (deep : Int) (hB : B ≤ w.heap.size) (hv : OwnB w B v l0) (hl : l0.length + (encD (l.map fun f => (f.1, f.2.val))).length + 5 ≤ 140737488351232) (ha : InD w la l)
    (hlow : ∀ p ∈ T.placesD la 0 l, p.1.block < B) (hn : l.length ≤ 1759218604390) (ih : ∀ x ∈ l, EncAt x.2) (hr : ∀ x ∈ l, rightV deep x.2.val = 0) (hE : Env2 w B) :
    Calls Tryd.prog 53 #[v, .agg #[.int .i64 5, .int .i64 n, .string s, .slice da dn dc, .slice la l.length lc]] w fun e w' => ∃ v', e = .returned v' ∧ Grew B w w' v v' (l0 ++ (leB 4 (((encD (l.map fun f => (f.1, f.2.val))).length + 5 : Nat) : Int) ++ encD (l.map fun f => (f.1, f.2.val)) ++ [0])) := by
  have HV := Lib.hid hv
  have HA := Lib.hid (And.intro ha (And.intro hlow (And.intro hr hE)))
  have IH := Lib.hid ih
  clear hv ha hlow ih hr hE
  go_enter Tryd.func53, Tryd.ntmps53
  go_wp2_with (first
    | (go_at_call 26; refine (appDoc_any B v l0 la lc l _ deep ?_ (HV.out.alloc _) hl ?_ HA.out.2.1 hn IH.out HA.out.2.2.1 (HA.out.2.2.2.then_ (below1 _ _))).mono ?_; (exact Nat.le_trans hB (below1 _ _).size); (exact fun p hp => ((below1 w _).cell (cell_lt (HA.out.1 p hp))).trans (HA.out.1 p hp)); rintro e w2 ⟨v2, rfl, hg2⟩; have G2 := Lib.hid (hg2.pre (below1 _ _)); clear hg2))
  go_ret
  exact ⟨_, rfl, G2.out⟩
theorem right_lists {deep k n : Int} {s : ByteArray} {l : List T} {d : List (ByteArray × T)} (h : rightV deep (.mk k n s (l.map T.val) (d.map fun f => (f.1, f.2.val))) = 0) : (∀ x ∈ l, rightV (deep + 1) x.val = 0) ∧ ∀ x ∈ d, rightV (deep + 1) x.2.val = 0 := by
  obtain ⟨-, hl, hd⟩ := right_parts h
  exact ⟨fun x hx => hl x.val (List.mem_map.2 ⟨x, hx, rfl⟩), fun x hx => (hd (x.1, x.2.val) (List.mem_map.2 ⟨x, hx, rfl⟩)).2⟩
theorem enc_any (t : T) : t.ok → EncAt t := by
  induction t using T.ind with
  | h k n s la lc l da dc d ihl ihd =>
  intro ok B v l0 w deep hB hv hl hin hlow hr hE
  obtain ⟨k0, k1, n0, n1, hs, hl1, hl2, hd1, hd2, okl, okd⟩ := ok.parts
  obtain ⟨inl, ind⟩ := hin.parts
  have lowl : ∀ p ∈ T.placesL la 0 l, p.1.block < B := fun p hp => hlow p (by simp [T.places, hp])
  have lowd : ∀ p ∈ T.placesD da 0 d, p.1.block < B := fun p hp => hlow p (by simp [T.places, hp])
  rw [T.val_mk] at hr
  obtain ⟨hk1, hk11⟩ := right_kind hr
  obtain ⟨hrl, hrd⟩ := right_lists hr
  obtain ⟨⟨-, hfits⟩, -, -⟩ := right_parts hr
  rw [T.val_mk, encV] at hl
  rw [T.val_mk, encV]
  show Calls _ _ #[v, .agg #[.int .i64 k, .int .i64 n, .string s, .slice la l.length lc, .slice da d.length dc]] _ _
  by_cases h3 : k = 3 ∨ k = 10
  · rw [if_pos h3] at hl ⊢
    rw [leB_len] at hl
    exact encNum_case k n s la lc l.length da dc d.length h3 B v l0 w hB hv hl
  rw [if_neg h3] at hl ⊢
  by_cases h4 : k = 4
  · rw [if_pos h4] at hl ⊢
    subst h4
    rw [List.length_append, List.length_append, leB_len, bsI_len, List.length_singleton] at hl
    exact encText_case n s la lc l.length da dc d.length B v l0 w hB hv (by omega)
  rw [if_neg h4] at hl ⊢
  by_cases h7 : k = 7
  · rw [if_pos h7] at hl ⊢
    subst h7
    rw [List.length_append, List.length_append, leB_len, bsI_len, List.length_singleton] at hl
    exact encBlob_case n s la lc l.length da dc d.length B v l0 w hB hv (by omega)
  rw [if_neg h7] at hl ⊢
  by_cases h8 : k = 8
  · rw [if_pos h8] at hl ⊢
    subst h8
    rw [bsI_len] at hl
    exact encId_case n s la lc l.length da dc d.length B v l0 w hB hv hl
  rw [if_neg h8] at hl ⊢
  by_cases h9 : k = 9
  · rw [if_pos h9] at hl ⊢
    subst h9
    refine encBool_case n s la lc l.length da dc d.length B v l0 w hB hv (by simpa using hl) ?_
    rw [fitsV] at hfits
    simp at hfits
    omega
  rw [if_neg h9] at hl ⊢
  by_cases h5 : k = 5
  · rw [if_pos h5] at hl ⊢
    subst h5
    rw [List.length_append, List.length_append, leB_len, List.length_singleton] at hl
    exact encD_case n s da dc d la lc l.length B v l0 w (deep + 1) hB hv (by omega) ind lowd (by omega) (fun x hx => ihd x hx (okd x hx).2) hrd hE
  rw [if_neg h5] at hl ⊢
  by_cases h6 : k = 6
  · rw [if_pos h6] at hl ⊢
    subst h6
    rw [List.length_append, List.length_append, leB_len, List.length_singleton] at hl
    exact encL_case n s la lc l da dc d.length B v l0 w (deep + 1) hB hv (by omega) inl lowl (by omega) (fun x hx => ihl x hx (okl x hx)) hrl hE
  rw [if_neg h6] at hl ⊢
  rw [List.append_nil]
  exact encPlain_case k n s la lc l.length da dc d.length (by omega) B v l0 w hv
end Go.Proofs.YtjfgmcmnpekahaaDoor
namespace Go.Proofs.YtjfgmcmnpekahaaDoor
open Go.RowKit
set_option maxRecDepth 100000

theorem Env2.mono {w : World} {B B' : Nat} (h : Env2 w B) (hB : B ≤ B') : Env2 w B' := ⟨h.tabs, h.codes, h.pow, fun b hb => Nat.lt_of_lt_of_le (h.low b hb) hB⟩
theorem T.In.places_lt {w : World} {t : T} (h : t.In w) : ∀ p ∈ t.places, p.1.block < w.heap.size := fun p hp => cell_lt (h p hp)
/-- A document as bytes, or why not. -/
def encOf : V → Int × List Int
  | .mk k n s l d => if k = 5 then (if rightOf (.mk k n s l d) = 0 then (0, encV (.mk k n s l d)) else (rightOf (.mk k n s l d), [])) else (1, [])
def EncTo (r : Int × List Int) (w : World) (e : Ending) (w' : World) : Prop := ∃ v', e = .returned (.tuple #[v', .int .i64 r.1]) ∧ OwnB w' w.heap.size v' r.2 ∧ Below w.heap.size w w'
set_option maxHeartbeats 4000000 in
theorem encode_any (t : T) (ok : t.ok) (w : World) (hin : t.In w) {B : Nat} (hE : Env2 w B) (hB : B ≤ w.heap.size) : Calls Tryd.prog 10 #[t.arg] w (EncTo (encOf t.val) w) := by
  obtain ⟨k, n, s, la, lc, l, da, dc, d⟩ := t
  have HI := Lib.hid (And.intro ok (And.intro hin (hE.mono hB)))
  obtain ⟨k0, k1, n0, n1, hs, hl1, hl2, hd1, hd2, okl, okd⟩ := ok.parts
  show Calls _ _ #[.agg #[.int .i64 k, .int .i64 n, .string s, .slice la l.length lc, .slice da d.length dc]] _ _
  have HD := Lib.hid (And.intro (show d.length ≤ 1759218604390 by omega) (fun x hx => (okd x hx).2))
  clear ok hin hE hB okl okd hs hl1 hl2 hd1 hd2
  by_cases h5 : k = 5
  · subst h5
    have b1 := below1 w (.cells #[.int .i64 5, .int .i64 n, .string s, .slice la l.length lc, .slice da d.length dc] 25)
    have hbx := heap_alloc_new w (.cells #[.int .i64 5, .int .i64 n, .string s, .slice la l.length lc, .slice da d.length dc] 25)
    have HR := Lib.hid (fun W (hW : Below w.heap.size w W) => right_any (.mk 5 n s la lc l da dc d) HI.out.1 W (HI.out.2.1.then_ hW) (HI.out.2.2.then_ hW).tabs)
    have HS := Lib.hid (fun W (hW : Below w.heap.size w W) => size_any (.mk 5 n s la lc l da dc d) HI.out.1 W (HI.out.2.1.then_ hW))
    have HB := Lib.hid (And.intro b1 hbx)
    clear b1 hbx
    go_enter Tryd.func10, Tryd.ntmps10
    go_wp2_with fail
    refine (HR.out _ HB.out.1).mono ?_
    rintro e w1 ⟨rfl, b1⟩
    have hbx := row_then HB.out.2 b1
    have c1 := row_cells hbx
    have HB1 := Lib.hid (And.intro (below_then HB.out.1 b1) hbx)
    clear b1 hbx
    by_cases hr : rightOf (T.val (.mk 5 n s la lc l da dc d)) = 0
    · obtain ⟨d', hv, hrv, hlen, hmax⟩ := right_doc (v := T.val (.mk 5 n s la lc l da dc d)) (by rw [T.val_mk]; rfl) hr
      have HV := Lib.hid (And.intro hr (And.intro hrv (And.intro hlen hmax)))
      rw [hr]
      obtain ⟨sz, hsz⟩ : ∃ sz : Nat, sizeV (T.val (.mk 5 n s la lc l da dc d)) = sz := ⟨(encV (T.val (.mk 5 n s la lc l da dc d))).length, hlen.symm⟩
      rw [hsz] at HS hlen
      obtain ⟨cur, hcur, hmk⟩ := make_any (P := Tryd.prog) 28 5 _ 1 1 Tryd.underlying28 info_byte 0 sz (by omega) (by omega) (by omega)
      replace hmk : ∀ w : World, (Instr.makeSlice 28 (.int .i64 0) (.int .i64 sz)).run Tryd.prog w = .ok (.slice (some ⟨w.heap.size, 0, none⟩) 0 sz) (w.alloc (.cells cur 5)) := fun w => by have := hmk w; simpa using this
      have HC := Lib.hid (fun w2 (h : w.heap.size ≤ w2.heap.size) => World.ownsRow_made (base := w.heap.size) (size := 1) (e := 5) w2 cur sz h (by unfold maxLen; omega) (by omega))
      have hz2 : sz ≤ 65536 := by omega
      have HLL := Lib.hid (show (encD (d.map fun f => (f.1, f.2.val))).length + 5 = sz by rw [T.val_mk, encV] at hlen; simp only [Int.reduceEq, or_self, if_false, if_true] at hlen; rw [List.length_append, List.length_append, leB_len, List.length_singleton] at hlen; omega)
      have hbl1 := HB1.out.1.size
      clear hr hv hrv hsz hcur hmax hlen
      go_wp2_with fail
      go_region_held3 (fun w' => w'.cell? ⟨w.heap.size, 0, none⟩ = some (.int .i64 5) ∧ w'.cell? ⟨w.heap.size, 1, none⟩ = some (.int .i64 n) ∧ w'.cell? ⟨w.heap.size, 2, none⟩ = some (.string s) ∧ w'.cell? ⟨w.heap.size, 3, none⟩ = some (.slice la l.length lc) ∧ w'.cell? ⟨w.heap.size, 4, none⟩ = some (.slice da d.length dc))
        (go_keep)
        (first
          | (go_at_call 23; refine (HS.out _ HB1.out.1.drew).mono ?_; rintro e w2 ⟨rfl, b2'⟩; have hbx2 := row_then HB1.out.2 (drop_drewB b2'); have c2 := row_cells hbx2; have c2a := fun X => row_cells (row_then hbx2 (below1 w2 X)); have HB2 := Lib.hid (And.intro (below_then HB1.out.1 (drop_drewB b2')) hbx2); clear b2' hbx2)
          | (go_at_call 26; refine (appDoc_any w.heap.size (.slice (some ⟨w2.heap.size, 0, none⟩) 0 sz) [] da dc d _ 2 ?_ (HC.out w2 HB2.out.1.size) ?_ ((HI.out.2.1.parts.2.then_ HB2.out.1).then_ (below1 _ _)) ?_ ?_ ?_ ?_ ((HI.out.2.2.then_ HB2.out.1).then_ (below1 _ _))).mono ?_; (exact Nat.le_trans HB2.out.1.size (below1 _ _).size); (have := HLL.out; simp; omega); (exact fun p hp => HI.out.2.1.places_lt p (by simp [T.places, hp])); (have := HD.out.1; omega); (exact fun x hx => enc_any x.2 (HD.out.2 x hx)); (exact (right_lists (by have h := HV.out.2.1; rw [T.val_mk] at h; exact h)).2); rintro e w3 ⟨v3, rfl, hg3⟩; have c3 := row_cells (hg3.row (row_then HB2.out.2 (below1 w2 _)) (fun b hb e => by have := lt_of_block HB2.out.2; simp [Value.ownBlock] at hb; omega)); have G3 := Lib.hid hg3; clear hg3))
      go_wp2_with fail
      go_ret2
      have he : encOf (T.val (.mk 5 n s la lc l da dc d)) = (0, encV (T.val (.mk 5 n s la lc l da dc d))) := by
        have hr := HV.out.1
        rw [T.val_mk] at hr ⊢
        rw [encOf, if_pos rfl, if_pos hr]
      refine ⟨v3, by rw [he]; rfl, ?_, ?_⟩
      · rw [he]
        have h := G3.out.own
        rw [T.val_mk, encV]
        simp only [Int.reduceEq, or_self, if_false, if_true]
        exact h
      · exact (HB2.out.1.alloc HB2.out.1.size _).grown G3.out.grow (Nat.le_trans HB2.out.1.size (below1 _ _).size) (fun b hb => by simp [Value.ownBlock] at hb; have := HB2.out.1.size; omega)
    · have hrb : (rightOf (T.val (.mk 5 n s la lc l da dc d)) != 0) = true := by simpa using hr
      go_wp2_with fail
      go_ret2
      refine ⟨.slice none 0 0, ?_, ?_, HB1.out.1⟩
      · rw [T.val_mk, encOf, if_pos rfl, if_neg (by rw [T.val_mk] at hr; exact hr)]; rfl
      rw [T.val_mk, encOf, if_pos rfl, if_neg (by rw [T.val_mk] at hr; exact hr)]
      exact OwnB.nil _ _
  · have hb : (k != 5) = true := by simpa using h5
    have HK := Lib.hid h5
    clear h5
    go_enter Tryd.func10, Tryd.ntmps10
    go_wp2_with fail
    go_ret2
    refine ⟨.slice none 0 0, ?_, ?_, below1 _ _⟩
    · rw [T.val_mk, encOf, if_neg HK.out]; rfl
    · rw [T.val_mk, encOf, if_neg HK.out]
      exact OwnB.nil _ _
end Go.Proofs.YtjfgmcmnpekahaaDoor
