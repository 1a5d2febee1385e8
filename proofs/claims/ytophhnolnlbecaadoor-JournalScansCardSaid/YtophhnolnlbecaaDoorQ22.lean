/- The document's own journal: the stream of sectors. Rows of rows of bytes: those that a call owns, and those that lie there. The document's own journal: Scan. No statement is proved here. -/
import Derived.Test.YtophhnolnlbecaaDoorQ21
import Derived.Test.YtophhnolnlbecaaDoorQ10
import Derived.Test.YtophhnolnlbecaaDoorQ6
namespace Go.Proofs.YtophhnolnlbecaaDoor
open Go.RowKit
set_option maxRecDepth 100000

theorem read_drop {l : List Int} {a : Nat} (h : a + 8 ≤ l.length) : readE (l.drop a) 0 8 = readE l (a : Int) 8 ∧ readP (l.drop a) 0 8 = readP l (a : Int) 8 := by
  have hc : cutB (l.drop a) 0 8 = cutB l (a : Int) 8 := by unfold cutB; simp
  have h1 : argR (l.drop a) 0 8 = true := decide_eq_true (by rw [List.length_drop]; omega)
  have h2 : argR l (a : Int) 8 = true := decide_eq_true (by omega)
  have h3 : lenR (l.drop a) 0 8 = true := decide_eq_true (by rw [List.length_drop]; omega)
  have h4 : lenR l (a : Int) 8 = true := decide_eq_true (by omega)
  have h5 : topR (l.drop a) 0 8 = topR l (a : Int) 8 := by unfold topR; rw [hc]
  have hE : readE (l.drop a) 0 8 = readE l (a : Int) 8 := by unfold readE; rw [h1, h2, h3, h4, h5]
  exact ⟨hE, by unfold readP; rw [hE, hc]⟩
/-- A step of the stream. -/
theorem stream_step {e : Int} {l : List Int} {k m : Nat} (hm : l.length / 512 = m) (hk : k < m) : streamN e (m - k) (l.drop (512 * k)) = if readE l ((512 * k : Nat) : Int) 8 = 0 ∧ readP l ((512 * k : Nat) : Int) 8 = e then (l.drop (512 * k + 8)).take 504 ++ streamN e (m - (k + 1)) (l.drop (512 * (k + 1))) else [] := by
  have hr := read_drop (l := l) (a := 512 * k) (by omega)
  rw [show m - k = (m - (k + 1)) + 1 by omega, streamN, if_neg (by rw [List.length_drop]; omega), hr.1, hr.2, List.drop_drop, List.drop_drop, show 512 * k + 512 = 512 * (k + 1) by omega]
theorem stream_end {e : Int} {l : List Int} {m : Nat} : streamN e (m - m) (l.drop (512 * m)) = [] := by
  rw [Nat.sub_self]
  rfl
theorem stream_len (e : Int) : ∀ (m : Nat) (l : List Int), (streamN e m l).length ≤ l.length
  | 0, l => Nat.zero_le _
  | m + 1, l => by
    rw [streamN]
    split
    · exact Nat.zero_le _
    · split
      · have := stream_len e m (l.drop 512)
        rw [List.length_append, List.length_take, List.length_drop]
        rw [List.length_drop] at this
        omega
      · exact Nat.zero_le _
theorem stream_byte {e : Int} : ∀ (m : Nat) (l : List Int), isB l → isB (streamN e m l)
  | 0, l, _ => isB.nil
  | m + 1, l, h => by
    rw [streamN]
    split
    · exact isB.nil
    · split
      · exact ((h.drop 8).take' 504).append2 (stream_byte m _ (h.drop 512))
      · exact isB.nil
set_option maxHeartbeats 8000000 in
theorem rstream_any (e : Int) (la : Option Addr) (n c : Nat) (l : List Int) (w : World) (he : okInt e) (hin : InB w la l) (hB : isB l) (hn : l.length = n) (hc : n ≤ c) (hl : n ≤ 140737488351232) :
    Calls Tryd.prog 44 #[.slice la n c, .int .i64 e] w fun en w' => ∃ v, en = .returned v ∧ OwnB w' w.heap.size v (streamN e (n / 512) l) ∧ Below w.heap.size w w' := by
  have HA := Lib.hid (And.intro hin (And.intro hB hn))
  obtain ⟨m, hm⟩ : ∃ m, m = n / 512 := ⟨_, rfl⟩
  have HM := Lib.hid (show l.length / 512 = m by rw [hn, hm])
  have hm1 : 512 * m ≤ n := by omega
  have hm2 : n < 512 * m + 512 := by omega
  rw [← hm]
  clear hin hB hn hm
  go_enter Tryd.func44, Tryd.ntmps44
  go_wp2_with fail
  go_loopw [5, 6] (fun v i wr => ∃ (k : Nat) (P : List Int), k ≤ m ∧ i = .int .i64 ((512 * k : Nat) : Int) ∧ Hid (Grew w.heap.size w wr (.slice none 0 0) v P ∧ streamN e m l = P ++ streamN e (m - k) (l.drop (512 * k)) ∧ P.length ≤ 512 * k)) (fun _ i _ => 512 * m + 512 - (intOf i).toNat)
  case atStart => exact ⟨0, [], by omega, rfl, Lib.hid ⟨Grew.refl (OwnB.nil _ _), by rw [Nat.sub_zero, Nat.mul_zero, List.drop_zero, List.nil_append], by simp⟩⟩
  case round =>
    obtain ⟨k, P, hk, rfl, HK⟩ := hrel
    have HBK := Lib.hid (HK.out.1.below (OwnB.nil _ _) (Below.refl _ _) (Nat.le_refl _) (Nat.le_refl _))
    by_cases hlt : k < m
    · obtain ⟨b, o, x0, rfl, -, -⟩ := HA.out.1.one (i := 512 * k) (by have := HA.out.2.2; omega)
      have HR := Lib.hid (refRead_any (some ⟨b, o, none⟩) c n l ((512 * k : Nat) : Int) 8 wr (HA.out.1.then_ HBK.out) HA.out.2.1 HA.out.2.2 hl (by unfold okInt; omega) (by unfold okInt; omega))
      unfold ReadTo at HR
      have HS := Lib.hid (HK.out.2.1.trans (by rw [stream_step (e := e) HM.out hlt]))
      have hcond : ((512 * k : Nat) : Int) + 512 ≤ (n : Int) := by omega
      by_cases hg : readE l ((512 * k : Nat) : Int) 8 = 0 ∧ readP l ((512 * k : Nat) : Int) 8 = e
      · obtain ⟨g1, g2⟩ := hg
        rw [g1, g2] at HR
        rw [g1, g2, if_pos ⟨rfl, rfl⟩] at HS
        clear g1 g2
        obtain ⟨a', hsl, hia⟩ := run_slB b o n c (512 * k + 8) (512 * k + 512) (((512 * k : Nat) : Int) + 8) (((512 * k : Nat) : Int) + 512) (by omega) (by omega) (by omega) (by omega)
        rw [show 512 * k + 512 - (512 * k + 8) = 504 by omega] at hsl hia
        have HIA := Lib.hid (hia wr l (HA.out.1.then_ HBK.out))
        have HL := Lib.hid (show ((l.drop (512 * k + 8)).take 504).length = 504 by rw [List.length_take, List.length_drop, HA.out.2.2]; omega)
        have hq : (e != e) = false := by simp
        clear hia
        obtain ⟨K, hK⟩ : ∃ K : Int, K = ((512 * k : Nat) : Int) := ⟨_, rfl⟩
        have hK0 : 0 ≤ K ∧ K + 512 ≤ n := by omega
        rw [← hK] at HR hsl hcond ⊢
        have HKK := Lib.hid hK
        clear hK
        go_wp2_with fail
        refine HR.out.mono ?_
        rintro en w' ⟨rfl, rfl⟩
        go_wp2_with (at_builtin; refine apR rfl (.tmp 30) (.tmp 36) rfl w.heap.size _ P rfl HK.out.1.own (some a') 504 (c - (512 * k + 8)) ((l.drop (512 * k + 8)).take 504) rfl HL.out HIA.out (fun e => by cases e) (by have := HK.out.2.2; omega) HK.out.1.size ?_; intro v5 w5 hg5; have G5 := Lib.hid (HK.out.1.trans hg5); clear hg5)
        go_roundw
        case rel => exact ⟨k + 1, P ++ (l.drop (512 * k + 8)).take 504, by omega, by rw [HKK.out]; go_num, Lib.hid ⟨G5.out, by rw [List.append_assoc]; exact HS.out, by rw [List.length_append, HL.out]; have := HK.out.2.2; omega⟩⟩
        case measure => have := HKK.out; simp [intOf]; omega
      · rw [if_neg hg, List.append_nil] at HS
        have hX0 := HK.out.1.own
        rw [← HS.out] at hX0
        have HX := Lib.hid hX0
        clear hX0
        have hcase : (readE l ((512 * k : Nat) : Int) 8 != 0) = true ∨ ((readE l ((512 * k : Nat) : Int) 8 != 0) = false ∧ (readP l ((512 * k : Nat) : Int) 8 != e) = true) := by
          by_cases h1 : readE l ((512 * k : Nat) : Int) 8 = 0
          · right
            exact ⟨by rw [h1]; rfl, bne_iff_ne.2 fun h2 => hg ⟨h1, h2⟩⟩
          · left
            exact bne_iff_ne.2 h1
        clear hg HS
        generalize readE l ((512 * k : Nat) : Int) 8 = r1 at *
        generalize readP l ((512 * k : Nat) : Int) 8 = r2 at *
        obtain ⟨K, hK⟩ : ∃ K : Int, K = ((512 * k : Nat) : Int) := ⟨_, rfl⟩
        have hK0 : 0 ≤ K ∧ K + 512 ≤ n := by omega
        rw [← hK] at HR hcond ⊢
        clear hK
        rcases hcase with hc1 | ⟨hc1, hc2⟩
        all_goals
          go_wp2_with fail
          refine HR.out.mono ?_
          rintro en w' ⟨rfl, rfl⟩
          go_wp2_with fail
          go_ret
          exact ⟨_, rfl, HX.out, HBK.out⟩
    · have hkm : k = m := by omega
      subst hkm
      have hs0 := HK.out.2.1
      rw [stream_end, List.append_nil] at hs0
      have hX0 := HK.out.1.own
      rw [← hs0] at hX0
      have HX := Lib.hid hX0
      clear hX0 hs0
      have hcond : ¬ ((512 * k : Nat) : Int) + 512 ≤ (n : Int) := by omega
      obtain ⟨K, hK⟩ : ∃ K : Int, K = ((512 * k : Nat) : Int) := ⟨_, rfl⟩
      have hK0 : 0 ≤ K ∧ K ≤ n := by omega
      rw [← hK] at hcond ⊢
      clear hK
      go_wp2_with fail
      go_ret
      exact ⟨_, rfl, HX.out, HBK.out⟩
end Go.Proofs.YtophhnolnlbecaaDoor
namespace Go.Proofs.YtophhnolnlbecaaDoor
open Go.RowKit
set_option maxRecDepth 100000

/-- A row of rows of a call's own: each row in a block of its own. -/
structure OwnRR (w : World) (B : Nat) (v : Value) (rs : List (Value × List Int)) : Prop where
  row : w.ownsRow B 22 1 v rs.length (rs.map (·.1))
  own : ∀ (i : Nat) (x : Value) (l : List Int), rs[i]? = some (x, l) → OwnB w B x l
  off : ∀ (i : Nat) (x : Value) (l : List Int), rs[i]? = some (x, l) → ∀ g, x.ownBlock = some g → v.ownBlock ≠ some g
  apart : ∀ (i j : Nat) (x : Value) (l : List Int) (x' : Value) (l' : List Int), rs[i]? = some (x, l) → rs[j]? = some (x', l') → i ≠ j → ∀ g, x.ownBlock = some g → x'.ownBlock ≠ some g
section
variable {w w' : World} {B B' : Nat} {v : Value} {rs rs2 : List (Value × List Int)}
theorem OwnRR.nil (w : World) (B : Nat) : OwnRR w B (.slice none 0 0) [] := ⟨World.ownsRow_nil _ _ _ _, fun i x l h => by simp at h, fun i x l h => by simp at h, fun i j x l x' l' h => by simp at h⟩
theorem OwnRR.block (h : OwnRR w B v rs) : ∀ g, v.ownBlock = some g → B ≤ g ∧ g < w.heap.size := World.ownsRow.lt h.row
theorem rr_keep {e : TypeId} {n : Nat} {xs : List Value} (h : w.ownsRow B e 1 v n xs) (hb : ∀ g, v.ownBlock = some g → w'.heap[g]? = w.heap[g]?) : w'.ownsRow B e 1 v n xs := by
  obtain ⟨h1, h2⟩ := h
  refine ⟨h1, ?_⟩
  rcases h2 with h2 | ⟨g, cap, cur, hv, hB, hg, hrest⟩
  · exact .inl h2
  · refine .inr ⟨g, cap, cur, hv, hB, ?_, hrest⟩
    rw [hb g (by rw [hv]; rfl)]
    exact hg
theorem rr_base {e : TypeId} {n : Nat} {xs : List Value} (h : w.ownsRow B e 1 v n xs) (hB : B' ≤ B) : w.ownsRow B' e 1 v n xs := by
  obtain ⟨h1, h2⟩ := h
  refine ⟨h1, ?_⟩
  rcases h2 with h2 | ⟨g, cap, cur, hv, hb, hrest⟩
  · exact .inl h2
  · exact .inr ⟨g, cap, cur, hv, Nat.le_trans hB hb, hrest⟩
theorem OwnRR.keep (h : OwnRR w B v rs) (hv : ∀ g, v.ownBlock = some g → w'.heap[g]? = w.heap[g]?) (hr : ∀ (i : Nat) (x : Value) (l : List Int), rs[i]? = some (x, l) → ∀ g, x.ownBlock = some g → w'.heap[g]? = w.heap[g]?) : OwnRR w' B v rs :=
  ⟨rr_keep h.row hv, fun i x l e => (h.own i x l e).keep (hr i x l e), h.off, h.apart⟩
theorem OwnRR.then_ (h : OwnRR w B v rs) (hb : Below w.heap.size w w') : OwnRR w' B v rs := h.keep (fun g hg => hb.block g (h.block g hg).2) fun i x l e g hg => hb.block g ((h.own i x l e).block g hg).2
theorem OwnRR.base (h : OwnRR w B v rs) (hB : B' ≤ B) : OwnRR w B' v rs := ⟨rr_base h.row hB, fun i x l e => (h.own i x l e).base hB, h.off, h.apart⟩
/-- It is kept where only blocks have turned that are none of its. -/
theorem OwnRR.only {S : List Nat} (h : OwnRR w B v rs) (ho : Only S w w') (hv : ∀ g, v.ownBlock = some g → g ∉ S) (hr : ∀ (i : Nat) (x : Value) (l : List Int), rs[i]? = some (x, l) → ∀ g, x.ownBlock = some g → g ∉ S) : OwnRR w' B v rs :=
  h.keep (fun g hg => ho.block g (h.block g hg).2 (hv g hg)) fun i x l e g hg => ho.block g ((h.own i x l e).block g hg).2 (hr i x l e g hg)
theorem OwnRR.form (h : OwnRR w B v rs) : ∃ a c, v = .slice a rs.length c ∧ (a = none → c = 0 ∧ rs = []) ∧ rs.length ≤ c ∧ c ≤ maxLen := by
  obtain ⟨h1, h2⟩ := h.row
  rcases h2 with ⟨hv, hz⟩ | ⟨g, cap, cur, hv, hb, hg, hle, hcm, hrest⟩
  · have hz2 : rs = [] := List.eq_nil_of_length_eq_zero hz
    subst hz2
    exact ⟨none, 0, hv, fun _ => ⟨rfl, rfl⟩, Nat.le_refl _, Nat.zero_le _⟩
  · exact ⟨_, cap, hv, fun e => (by cases e), hle, hcm⟩
theorem OwnRR.at_ (h : OwnRR w B v rs) {i : Nat} {x : Value} {l : List Int} (hi : rs[i]? = some (x, l)) : ∃ g c, v = .slice (some ⟨g, 0, none⟩) rs.length c ∧ w.cell? ⟨g, i, none⟩ = some x := by
  have hlt := lt_of_get hi
  have h0 := h.row
  obtain ⟨h1, h2⟩ := h.row
  rcases h2 with ⟨-, hz⟩ | ⟨g, cap, cur, hv, hrest⟩
  · omega
  · refine ⟨g, cap, hv, ?_⟩
    have hc := World.ownsRow.cells h0 (g := g) (by rw [hv]; rfl) i x (by rw [List.getElem?_map, hi]; rfl)
    have e : (⟨g, 0, none⟩ : Addr).add i = ⟨g, i, none⟩ := by unfold Addr.add; split <;> simp_all
    rw [e] at hc
    exact hc
theorem one_slice {x : Value} {l : List Int} (h : OwnB w B x l) : x.oneCell' = true := by
  obtain ⟨a, c, rfl, -⟩ := h.shape
  rfl
theorem run_apRR (w : World) (ty : TypeId) (B : Nat) (v : Value) (rs : List (Value × List Int)) (h : OwnRR w B v rs) (rs2 : List (Value × List Int)) (hown : ∀ (i : Nat) (x : Value) (l : List Int), rs2[i]? = some (x, l) → OwnB w B x l)
    (hoff : ∀ (i : Nat) (x : Value) (l : List Int), rs2[i]? = some (x, l) → ∀ g, x.ownBlock = some g → v.ownBlock ≠ some g ∧ ∀ (j : Nat) (y : Value) (m : List Int), rs[j]? = some (y, m) → y.ownBlock ≠ some g)
    (hap : ∀ (i j : Nat) (x : Value) (l : List Int) (x' : Value) (l' : List Int), rs2[i]? = some (x, l) → rs2[j]? = some (x', l') → i ≠ j → ∀ g, x.ownBlock = some g → x'.ownBlock ≠ some g)
    (b : Option Addr) (n c : Nat) (hn : rs2.length = n) (h0 : b = none → n = 0 ∧ c = 0) (hcell : ∀ ad, b = some ad → ∀ (i : Nat) (x : Value) (l : List Int), rs2[i]? = some (x, l) → w.cell? (ad.add i) = some x) (hl : (rs.length + n) * 24 ≤ 140737488355328) (hB : B ≤ w.heap.size) :
    ∃ v' w', (Builtin.append_ #[30, 30] ty #[v, .slice b n c]).run Tryd.prog w = .ok v' w' ∧ OwnRR w' B v' (rs ++ rs2) ∧ w.grownBy w' v.ownBlock ∧ (v'.ownBlock = v.ownBlock ∨ v'.ownBlock = some w.heap.size) := by
  obtain ⟨i0, hi0, hz0, hz1, hz2⟩ := info_parts info_row
  subst hn
  have hone : ∀ u ∈ rs2.map (·.1), u.oneCell' = true := fun u hu => by
    obtain ⟨p, hp, rfl⟩ := List.mem_map.1 hu
    obtain ⟨i, hi⟩ := List.mem_iff_getElem?.1 hp
    exact one_slice (hown i p.1 p.2 hi)
  have hr : ∃ v' w', (Builtin.append_ #[30, 30] ty #[v, .slice b rs2.length c]).run Tryd.prog w = .ok v' w' ∧ w'.ownsRow B 22 1 v' (rs.length + rs2.length) (rs.map (·.1) ++ rs2.map (·.1)) ∧ w.grownBy w' v.ownBlock ∧ (v'.ownBlock = v.ownBlock ∨ v'.ownBlock = some w.heap.size) := by
    cases b with
    | none =>
      obtain ⟨e1, rfl⟩ := h0 rfl
      have e2 : rs2 = [] := List.eq_nil_of_length_eq_zero e1
      subst e2
      exact ⟨v, w, run_append_owned_none (P := Tryd.prog) (w := w) B 30 ty 22 i0 1 Tryd.underlying30 hi0 v rs.length (rs.map (·.1)) h.row, by simpa using h.row, World.grownBy.refl _ _, .inl rfl⟩
    | some ad =>
      obtain ⟨v', w', hr, h1, h2, -, h4⟩ := run_append_own_at (P := Tryd.prog) w B 30 ty 22 i0 _ 1 24 Tryd.underlying30 hi0 hz0 hz1 hz2 rfl (by decide) v rs.length (rs.map (·.1)) h.row ad rs2.length c (rs2.map (·.1)) (by rw [List.length_map]; omega) (fun j u hj => by
        rw [List.getElem?_map, Option.map_eq_some_iff] at hj
        obtain ⟨p, hp, rfl⟩ := hj
        exact hcell ad rfl j p.1 p.2 hp) hone (by unfold maxLen; omega) hl hB
      exact ⟨v', w', hr, h1, h2, h4⟩
  obtain ⟨v', w', hr, h1, h2, h4⟩ := hr
  refine ⟨v', w', hr, ?_, h2, h4⟩
  have kx : ∀ (x : Value) (l : List Int), OwnB w B x l → (∀ g, x.ownBlock = some g → v.ownBlock ≠ some g) → OwnB w' B x l := fun x l ho hne => ho.keep fun g hg => h2.block g (ho.block g hg).2 (fun e => hne g hg e.symm)
  have hget : ∀ (i : Nat) (x : Value) (l : List Int), (rs ++ rs2)[i]? = some (x, l) → (i < rs.length ∧ rs[i]? = some (x, l)) ∨ (rs.length ≤ i ∧ rs2[i - rs.length]? = some (x, l)) := fun i x l e => by
    rcases Nat.lt_or_ge i rs.length with hi | hi
    · rw [List.getElem?_append_left hi] at e
      exact .inl ⟨hi, e⟩
    · rw [List.getElem?_append_right hi] at e
      exact .inr ⟨hi, e⟩
  refine ⟨by rw [List.length_append, List.map_append]; exact h1, fun i x l e => ?_, fun i x l e g hg hv => ?_, fun i j x l x' l' e e' hij g hg => ?_⟩
  · rcases hget i x l e with ⟨-, e⟩ | ⟨-, e⟩
    · exact kx x l (h.own i x l e) (h.off i x l e)
    · exact kx x l (hown _ x l e) fun g hg => (hoff _ x l e g hg).1
  · have hlt : g < w.heap.size ∧ v.ownBlock ≠ some g := by
      rcases hget i x l e with ⟨-, e⟩ | ⟨-, e⟩
      · exact ⟨((h.own i x l e).block g hg).2, h.off i x l e g hg⟩
      · exact ⟨((hown _ x l e).block g hg).2, (hoff _ x l e g hg).1⟩
    rcases h4 with h4 | h4
    · exact hlt.2 (h4 ▸ hv)
    · rw [h4] at hv
      injection hv with hv
      omega
  · rcases hget i x l e with ⟨hi, e⟩ | ⟨hi, e⟩ <;> rcases hget j x' l' e' with ⟨hj, e'⟩ | ⟨hj, e'⟩
    · exact h.apart i j x l x' l' e e' hij g hg
    · exact fun hx => (hoff _ x' l' e' g hx).2 i x l e hg
    · exact (hoff _ x l e g hg).2 j x' l' e'
    · exact hap _ _ x l x' l' e e' (by omega) g hg
theorem apRR {ops : Array Oper} {rest : List Oper} {o : Oper} {a : Act} {Q : Exit → Act → World → Prop} (hgd : o.guard = none) (s x : Operand)
    (ho : o.op = .call { callee := .builtin .append, args := #[s, x], argTypes := #[30, 30] }) (B : Nat) (v : Value) (rs : List (Value × List Int)) (hs : a.eval s = v) (h : OwnRR w B v rs) (rs2 : List (Value × List Int)) (hown : ∀ (i : Nat) (x : Value) (l : List Int), rs2[i]? = some (x, l) → OwnB w B x l)
    (hoff : ∀ (i : Nat) (x : Value) (l : List Int), rs2[i]? = some (x, l) → ∀ g, x.ownBlock = some g → v.ownBlock ≠ some g ∧ ∀ (j : Nat) (y : Value) (m : List Int), rs[j]? = some (y, m) → y.ownBlock ≠ some g)
    (hap : ∀ (i j : Nat) (x : Value) (l : List Int) (x' : Value) (l' : List Int), rs2[i]? = some (x, l) → rs2[j]? = some (x', l') → i ≠ j → ∀ g, x.ownBlock = some g → x'.ownBlock ≠ some g)
    (b : Option Addr) (n c : Nat) (hx : a.eval x = .slice b n c) (hn : rs2.length = n) (h0 : b = none → n = 0 ∧ c = 0) (hcell : ∀ ad, b = some ad → ∀ (i : Nat) (x : Value) (l : List Int), rs2[i]? = some (x, l) → w.cell? (ad.add i) = some x) (hl : (rs.length + n) * 24 ≤ 140737488355328) (hB : B ≤ w.heap.size)
    (hk : ∀ v' w', Hid (OwnRR w' B v' (rs ++ rs2) ∧ w.grownBy w' v.ownBlock ∧ (v'.ownBlock = v.ownBlock ∨ v'.ownBlock = some w.heap.size)) → wpList Tryd.prog ops Q rest (a.put o.dst v') w') : wpList Tryd.prog ops Q (o :: rest) a w := by
  obtain ⟨v', w', hr, hall⟩ := run_apRR w o.type B v rs h rs2 hown hoff hap b n c hn h0 hcell hl hB
  exact wpList_ap hgd s x _ _ ho _ _ v' w' hs hx hr (hk v' w' (Lib.hid hall))
/-- Rows that lie there, to be read. -/
def InRR (w : World) (a : Option Addr) (ls : List (List Int)) : Prop := ∀ (i : Nat) (l : List Int), ls[i]? = some l → ∃ b o ax cx, a = some ⟨b, o, none⟩ ∧ w.cell? ⟨b, o + i, none⟩ = some (.slice ax l.length cx) ∧ InB w ax l ∧ (ax = none → cx = 0 ∧ l = []) ∧ l.length ≤ cx ∧ cx ≤ maxLen ∧ isB l
theorem InRR.then_ {a : Option Addr} {ls : List (List Int)} (h : InRR w a ls) (hb : Below w.heap.size w w') : InRR w' a ls := fun i l e => by
  obtain ⟨b, o, ax, cx, e1, e2, e3, e4⟩ := h i l e
  exact ⟨b, o, ax, cx, e1, (hb.cell (p := ⟨b, o + i, none⟩) (cell_lt e2)).trans e2, e3.then_ hb, e4⟩
theorem InRR.nil (w : World) (a : Option Addr) : InRR w a [] := fun i l e => by simp at e
theorem OwnRR.inRR (h : OwnRR w B v rs) (hB : ∀ p ∈ rs, isB p.2) : ∃ a c, v = .slice a rs.length c ∧ InRR w a (rs.map (·.2)) := by
  obtain ⟨a, c, hv, -⟩ := h.form
  refine ⟨a, c, hv, fun i l e => ?_⟩
  rw [List.getElem?_map, Option.map_eq_some_iff] at e
  obtain ⟨⟨x, l'⟩, hp, e2⟩ := e
  dsimp only at e2
  subst e2
  obtain ⟨g, c', hv', hc⟩ := h.at_ hp
  obtain ⟨ax, cx, rfl, h1, h2, h3, h4⟩ := (h.own i x l' hp).shape
  rw [hv] at hv'
  injection hv' with e1 e2 e3
  exact ⟨g, 0, ax, cx, e1, by rw [Nat.zero_add]; exact hc, h1, h2, h3, h4, hB _ (List.mem_of_getElem? hp)⟩
end
end Go.Proofs.YtophhnolnlbecaaDoor
namespace Go.Proofs.YtophhnolnlbecaaDoor
open Go.RowKit
set_option maxRecDepth 100000

/-- What is behind a place of a row of bytes, wherever its address lies. -/
theorem run_slL (a : Option Addr) (n c i : Nat) (lo : Int) (hlo : lo = i) (hi : i ≤ n) (hc : n ≤ c) (hnil : a = none → c = 0) (hpl : ∀ ad, a = some ad → ad.spot = none) : ∃ a', (∀ w, (Instr.slice 22 (.slice a n c) (some (.int .i64 lo)) none none).run Tryd.prog w = .ok (.slice a' (n - i) (c - i)) w) ∧
    (∀ (w : World) (l : List Int), InB w a l → l.length = n → InB w a' (l.drop i)) ∧ (a' = none → c - i = 0) ∧ ∀ ad, a' = some ad → ad.spot = none := by
  subst hlo
  have e2 : (i : Int).toNat = i := by omega
  cases a with
  | none =>
    have hc0 := hnil rfl
    subst hc0
    have hi0 : i = 0 := by omega
    have hn0 : n = 0 := by omega
    subst hi0 hn0
    refine ⟨none, fun w => ?_, fun w l h hl => ?_, fun _ => rfl, fun ad e => (by cases e)⟩
    · rw [run_slice_l w 22 _ _ _ (by kernel_rfl) .i64 _ (by omega) (by omega)]
      simp [go_sem, sliced]
    · rw [List.eq_nil_of_length_eq_zero hl]
      intro k x hx
      simp at hx
  | some ad =>
    obtain ⟨b, o, sp⟩ := ad
    have := hpl _ rfl
    subst this
    by_cases hne : c = i
    · refine ⟨some ⟨b, o, none⟩, fun w => ?_, fun w l h hl => ?_, fun e => (by cases e), fun ad e => (by injection e with e; rw [← e])⟩
      · rw [run_slice_l w 22 _ _ _ (by kernel_rfl) .i64 _ (by omega) (by omega)]
        rw [show sizeOf (Tryd.prog.elem 22) = sizeOf 5 from rfl]
        simp [go_sem, sliced, hne, e2]
      · rw [List.drop_eq_nil_of_le (by omega)]
        intro k x hx
        simp at hx
    · refine ⟨some ⟨b, o + i, none⟩, fun w => ?_, fun w l h hl => h.from i, fun e => (by cases e), fun ad e => (by injection e with e; rw [← e])⟩
      rw [run_slice_l w 22 _ _ _ (by kernel_rfl) .i64 _ (by omega) (by omega)]
      rw [show sizeOf (Tryd.prog.elem 22) = sizeOf 5 from rfl]
      simp [go_sem, sliced, hne, e2]
theorem stands_some {l : List Int} {e num : Int} (h : standsN l e num ≠ 0) : num < 2147483648 ∧ 20 ≤ standsN l e num ∧ standsN l e num ≤ l.length := by
  unfold standsN at *
  split at h
  · exact absurd rfl h
  · rename_i h20
    split at h
    · exact absurd rfl h
    · rename_i hm
      split at h
      · rename_i hfr
        rw [if_neg h20, if_neg hm, if_pos hfr]
        refine ⟨?_, by omega, by omega⟩
        unfold frL at hfr
        split at hfr
        · rename_i hE
          unfold frE at hE
          split at hE
          · exact absurd hE (by decide)
          · rename_i hno
            rcases Int.lt_or_le num 2147483648 with h1 | h1
            · exact h1
            · exact absurd (.inr (.inr h1)) hno
        · have := congrArg List.length hfr
          simp at this
          omega
      · exact absurd rfl h
/-- One row more, made since. -/
theorem rr_snoc {w w5 : World} {B : Nat} {v x : Value} {rs : List (Value × List Int)} {l : List Int} (h : OwnRR w B v rs) (hb : Below w.heap.size w w5) (hx : OwnB w5 w.heap.size x l) (hB : B ≤ w.heap.size) :
    OwnRR (w5.alloc (.cells #[x] 22)) B v rs ∧ (∀ (i : Nat) (y : Value) (m : List Int), [(x, l)][i]? = some (y, m) → OwnB (w5.alloc (.cells #[x] 22)) B y m) ∧
      (∀ (i : Nat) (y : Value) (m : List Int), [(x, l)][i]? = some (y, m) → ∀ g, y.ownBlock = some g → v.ownBlock ≠ some g ∧ ∀ (j : Nat) (z : Value) (k : List Int), rs[j]? = some (z, k) → z.ownBlock ≠ some g) ∧
      (∀ (i j : Nat) (y : Value) (m : List Int) (y' : Value) (m' : List Int), [(x, l)][i]? = some (y, m) → [(x, l)][j]? = some (y', m') → i ≠ j → ∀ g, y.ownBlock = some g → y'.ownBlock ≠ some g) ∧
      (∀ ad, some (⟨w5.heap.size, 0, none⟩ : Addr) = some ad → ∀ (i : Nat) (y : Value) (m : List Int), [(x, l)][i]? = some (y, m) → (w5.alloc (.cells #[x] 22)).cell? (ad.add i) = some y) := by
  have one : ∀ (i : Nat) (y : Value) (m : List Int), [(x, l)][i]? = some (y, m) → i = 0 ∧ y = x ∧ m = l := fun i y m e => by
    cases i with
    | zero =>
      simp at e
      exact ⟨rfl, e.1.symm, e.2.symm⟩
    | succ i => simp at e
  have hb6 := below_then hb (below1 w5 (.cells #[x] 22))
  refine ⟨h.then_ hb6, fun i y m e => ?_, fun i y m e g hg => ?_, fun i j y m y' m' e e' hij => ?_, fun ad had i y m e => ?_⟩
  · obtain ⟨rfl, rfl, rfl⟩ := one i y m e
    exact (hx.base hB).alloc _
  · obtain ⟨rfl, rfl, rfl⟩ := one i y m e
    have h1 := (hx.block g hg).1
    refine ⟨fun hv => ?_, fun j z k ej hz => ?_⟩
    · have := (h.block g hv).2
      omega
    · have := ((h.own j z k ej).block g hz).2
      omega
  · obtain ⟨rfl, -, -⟩ := one i y m e
    obtain ⟨rfl, -, -⟩ := one j y' m' e'
    exact absurd rfl hij
  · obtain ⟨rfl, rfl, rfl⟩ := one i y m e
    injection had with had
    subst had
    exact row_cells (heap_alloc_new w5 (.cells #[y] 22)) 0
/-- What Scan tells. -/
def ScTo (l : List Int) (e : Int) (w : World) (en : Ending) (w' : World) : Prop := ∃ v rs, en = .returned (.tuple #[v, .int .i64 ((scanN (streamN e (l.length / 512) l) e).2 : Int)]) ∧ rs.map Prod.snd = (scanN (streamN e (l.length / 512) l) e).1 ∧ OwnRR w' w.heap.size v rs ∧ Below w.heap.size w w'
theorem ownB_spot {w : World} {B : Nat} {a : Option Addr} {n c : Nat} {l : List Int} (h : OwnB w B (.slice a n c) l) : ∀ ad, a = some ad → ad.spot = none := by
  obtain ⟨h1, h2⟩ := h
  rcases h2 with ⟨hv, -⟩ | ⟨g, cap, cur, hv, -⟩
  · injection hv with hv
    subst hv
    intro ad e
    cases e
  · injection hv with hv
    subst hv
    intro ad e
    injection e with e
    subst e
    rfl
set_option maxHeartbeats 8000000 in
theorem rscan_any (e : Int) (la : Option Addr) (n c : Nat) (l : List Int) (w : World) (he : okInt e) (hin : InB w la l) (hB : isB l) (hn : l.length = n) (hc : n ≤ c) (hl : n ≤ 140737488351232) :
    Calls Tryd.prog 16 #[.slice la n c, .int .i64 e] w (ScTo l e w) := by
  have HEp := Lib.hid (repoch_any e w)
  by_cases c1 : jOk e
  rotate_left
  · have HX := Lib.hid (show ScTo l e w (.returned (.tuple #[.slice none 0 0, .int .i64 0])) w from ⟨_, [], by unfold scanN; rw [if_neg c1]; rfl, by unfold scanN; rw [if_neg c1]; rfl, OwnRR.nil _ _, Below.refl _ _⟩)
    rw [decide_eq_false c1] at HEp
    clear c1 hin hB hn
    go_enter Tryd.func16, Tryd.ntmps16
    go_wp2_with fail
    refine HEp.out.mono ?_
    rintro en w' ⟨rfl, rfl⟩
    go_wp2_with fail
    go_ret2
    exact HX.out
  rw [decide_eq_true c1] at HEp
  have HST := Lib.hid (rstream_any e la n c l w he hin hB hn hc hl)
  have hSl := stream_len e (n / 512) l
  have HSB := Lib.hid (stream_byte (e := e) (n / 512) l hB)
  have HSN := Lib.hid (show scanN (streamN e (l.length / 512) l) e = scanF (streamN e (n / 512) l) e ((streamN e (n / 512) l).length + 1) 0 0 by rw [hn]; unfold scanN; rw [if_pos c1])
  obtain ⟨R, hR⟩ : ∃ R, scanN (streamN e (l.length / 512) l) e = R := ⟨_, rfl⟩
  have HR := Lib.hid hR
  rw [hR] at HSN
  rw [hn] at hSl
  clear hR c1 hin hB hc
  generalize streamN e (n / 512) l = S at *
  go_enter Tryd.func16, Tryd.ntmps16
  go_wp2_with fail
  refine HEp.out.mono ?_
  rintro en w' ⟨rfl, rfl⟩
  go_wp2_with fail
  refine HST.out.mono ?_
  rintro en w1 ⟨v1, rfl, o1, b1⟩
  obtain ⟨ax, cx, rfl, i1, n1, le1, m1⟩ := o1.shape
  have hspot := ownB_spot o1
  have H1 := Lib.hid (And.intro i1 (And.intro n1 b1))
  obtain ⟨L, hL⟩ : ∃ L, L = S.length := ⟨_, rfl⟩
  rw [← hL] at le1 hSl HSN ⊢
  have HL := Lib.hid hL
  have n1' : ax = none → cx = 0 := fun h => (n1 h).1
  clear i1 n1 b1 o1 hL HST HEp
  have hL2 : L ≤ 140737488351232 := by omega
  clear hSl hl hn
  go_wp2_with fail
  go_loopw [8, 9] (fun v i wr => ∃ (rs : List (Value × List Int)) (f : Nat) (en : Nat), i = .int .i64 (en : Int) ∧ en ≤ L ∧ rs.length ≤ 2147483648 ∧ Hid (OwnRR wr w1.heap.size v rs ∧ Below w1.heap.size w1 wr ∧ R = (rs.map Prod.snd ++ (scanF S e f rs.length en).1, (scanF S e f rs.length en).2) ∧ L + 1 ≤ f + en)) (fun _ i _ => L + 1 - (intOf i).toNat)
  case atStart => exact ⟨[], L + 1, 0, rfl, Nat.zero_le _, by simp, Lib.hid ⟨OwnRR.nil _ _, Below.refl _ _, by rw [HSN.out]; simp, by omega⟩⟩
  case round =>
    obtain ⟨rs, f, en, rfl, hen, hrs, HK⟩ := hrel
    obtain ⟨av, cv, rfl, nv, lev, mv⟩ := HK.out.1.form
    have HB := Lib.hid (below_then H1.out.2.2 HK.out.2.1)
    obtain ⟨f', hf'⟩ : ∃ f', f = f' + 1 := ⟨f - 1, by have := HK.out.2.2.2; omega⟩
    have hstep := HK.out.2.2.1
    rw [hf', scanF, ← HL.out] at hstep
    have HF' := Lib.hid hf'
    have hbl := begins_le en
    have HBG := Lib.hid (rbegins_any en (by omega) wr)
    obtain ⟨p, hp⟩ : ∃ p, p = begins en := ⟨_, rfl⟩
    rw [← hp] at HBG hstep hbl
    clear hp hf'
    by_cases c2 : L < p
    · rw [if_pos c2] at hstep
      have HX := Lib.hid (show ScTo l e w (.returned (.tuple #[.slice av rs.length cv, .int .i64 (en : Int)])) wr from ⟨_, rs, by rw [HR.out, hstep], by rw [HR.out, hstep]; simp, HK.out.1.base H1.out.2.2.size, HB.out⟩)
      clear hstep
      go_wp2_with fail
      refine HBG.out.mono ?_
      rintro en' w' ⟨rfl, rfl⟩
      go_wp2_with fail
      go_ret2
      exact HX.out
    rw [if_neg c2] at hstep
    have hpL : p ≤ L := by omega
    obtain ⟨a', hsl, hia, hnil'⟩ := run_slL ax L cx p (p : Int) rfl hpL le1 n1' hspot
    have HSt := Lib.hid (rstands_any e (rs.length : Int) a' (L - p) (cx - p) (S.drop p) wr he (by unfold okInt; omega) ((hia w1 S H1.out.1 HL.out.symm).then_ HK.out.2.1) (HSB.out.drop p) (by rw [List.length_drop, ← HL.out]) (by omega) (by omega))
    have HSS := Lib.hid (fun h => stands_some (l := S.drop p) (e := e) (num := (rs.length : Int)) h)
    rw [List.length_drop, ← HL.out] at HSS
    obtain ⟨m, hm⟩ : ∃ m, m = standsN (S.drop p) e (rs.length : Int) := ⟨_, rfl⟩
    rw [← hm] at HSt hstep HSS
    clear hm hia
    by_cases c3 : m = 0
    · rw [if_pos c3] at hstep
      subst c3
      have HX := Lib.hid (show ∀ wx, Below wr.heap.size wr wx → ScTo l e w (.returned (.tuple #[.slice av rs.length cv, .int .i64 (en : Int)])) wx from fun wx hx => ⟨_, rs, by rw [HR.out, hstep], by rw [HR.out, hstep]; simp, (HK.out.1.then_ hx).base H1.out.2.2.size, below_then HB.out hx⟩)
      clear hstep
      go_wp2_with fail
      refine HBG.out.mono ?_
      rintro en' w' ⟨rfl, rfl⟩
      go_wp2_with fail
      refine HSt.out.mono ?_
      rintro en' w2 ⟨rfl, b2⟩
      have HB2 := Lib.hid b2
      clear b2
      go_wp2_with fail
      go_ret2
      exact HX.out _ HB2.out
    · rw [if_neg c3] at hstep
      obtain ⟨g1, g2, g3⟩ := HSS.out c3
      obtain ⟨b, o, x0, rfl, -, -⟩ := H1.out.1.one (i := 0) (by rw [← HL.out]; omega)
      obtain ⟨a2, hsl2, hia2⟩ := run_slB b o L cx (p + 20) (p + m) ((p : Int) + 20) ((p : Int) + m) (by omega) (by omega) (by omega) (by omega)
      rw [show p + m - (p + 20) = m - 20 by omega] at hsl2 hia2
      obtain ⟨X, hX⟩ : ∃ X, X = (S.drop (p + 20)).take (m - 20) := ⟨_, rfl⟩
      have HXX := Lib.hid hX
      have HLn : Hid (X.length = m - 20) := Lib.hid (by rw [hX, List.length_take, List.length_drop, ← HL.out]; omega)
      have HIA2 := Lib.hid (fun w' hb => hia2 w' S (H1.out.1.then_ hb))
      rw [← hX] at HIA2 hstep
      have HST2 := Lib.hid hstep
      have hc3 : (m == 0) = false := by simp [c3]
      have hc3i : (((m : Nat) : Int) == 0) = false := by simp; omega
      clear hX hstep hia2 hnil'
      go_wp2_with fail
      refine HBG.out.mono ?_
      rintro en' w' ⟨rfl, rfl⟩
      go_wp2_with fail
      refine HSt.out.mono ?_
      rintro en' w2 ⟨rfl, b2⟩
      have HB2 := Lib.hid b2
      have HK2 := Lib.hid (HK.out.1.then_ b2)
      have HW2 := Lib.hid (below_then HK.out.2.1 b2)
      have HO0 : Hid (OwnB (w2.alloc (.cells #[] 5)) w2.heap.size (.slice (some ⟨w2.heap.size, 0, none⟩) 0 0) []) := Lib.hid (by simpa [btV] using OwnB.lit w2 [] (by decide))
      have HIN := Lib.hid (HIA2.out _ (below_then HW2.out (below1 w2 (.cells #[] 5))))
      have HSZ := (below1 w2 (.cells #[] 5)).size
      clear b2
      go_wp2_with (first
        | (show wpList _ _ _ (⟨some 47, _, _, _, _, _⟩ :: _) _ _; refine apR rfl (.tmp 39) (.tmp 46) rfl w2.heap.size _ [] rfl HO0.out (some a2) (m - 20) (cx - (p + 20)) X rfl HLn.out HIN.out (fun e => by cases e) (by simp; omega) HSZ ?_; intro v5 w5 hg5; rw [List.nil_append] at hg5; obtain ⟨a5, c5, rfl, -⟩ := hg5.own.shape; have B5 := Lib.hid (hg5.below HO0.out (below1 w2 _) (Nat.le_refl _) HSZ); have RS := Lib.hid (rr_snoc HK2.out B5.out hg5.own HW2.out.size); clear hg5)
        | (show wpList _ _ _ (⟨some 49, _, _, _, _, _⟩ :: _) _ _; refine apRR rfl (.tmp 38) (.tmp 48) rfl w1.heap.size _ rs rfl RS.out.1 _ RS.out.2.1 RS.out.2.2.1 RS.out.2.2.2.1 (some ⟨w5.heap.size, 0, none⟩) 1 1 rfl rfl (fun e => by cases e) RS.out.2.2.2.2 (by omega) (Nat.le_trans HW2.out.size (below_then B5.out (below1 w5 _)).size) ?_; intro v7 w7 h7))
      go_roundw
      case rel => exact ⟨rs ++ [(.slice a5 X.length c5, X)], f', p + m, by go_num, by omega, by simp; omega, Lib.hid ⟨h7.out.1, (below_then HW2.out (below_then B5.out (below1 w5 _))).grown h7.out.2.1 (below_then HW2.out (below_then B5.out (below1 w5 _))).size (fun g hg => (HK2.out.block g hg).1), by rw [HST2.out, List.map_append, List.length_append]; simp, by have := HK.out.2.2.2; have := HF'.out; omega⟩⟩
      case measure => simp [intOf]; omega
end Go.Proofs.YtophhnolnlbecaaDoor
