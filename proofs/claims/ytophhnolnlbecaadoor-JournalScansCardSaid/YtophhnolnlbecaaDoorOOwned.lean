/- What layer 11's statements call over rows of bytes that need not begin where their block does: the contract of Owned. No statement is proved here. -/
import Derived.Test.YtophhnolnlbecaaDoorOOwnd
import Derived.Test.YtophhnolnlbecaaDoorQ12
namespace Go.Proofs.YtophhnolnlbecaaDoor
open Go.RowKit
set_option maxRecDepth 100000

theorem OwnO.form {w : World} {B : Nat} {v : Value} {l : List Int} (h : OwnO w B v l) (hl : 1 ≤ l.length) : ∃ g o c, v = .slice (some ⟨g, o, none⟩) l.length c ∧ l.length ≤ c := by
  rcases h with h | ⟨g, o, c, cur, rfl, hB, hg, hs, hle, hc, hr⟩
  · obtain ⟨g, c, e, h2⟩ := h.form hl
    exact ⟨g, 0, c, e, h2⟩
  · exact ⟨g, o, c, rfl, hle⟩
theorem OwnO.at_ {w : World} {B g o n c : Nat} {l : List Int} (h : OwnO w B (.slice (some ⟨g, o, none⟩) n c) l) {j : Nat} {x : Int} (hx : l[j]? = some x) : w.cell? ⟨g, o + j, none⟩ = some (.int .u8 x) ∧ w.frozen? ⟨g, o + j, none⟩ = false := by
  rcases h with h | ⟨g', o', c', cur, e, hB, hg, hs, hle, hc, hr⟩
  · have ha := h.addr.2
    rcases ha with ha | ⟨g0, ha⟩
    · cases ha
    · injection ha with ha
      injection ha with e1 e2
      subst e1 e2
      rw [Nat.zero_add]
      exact h.at_ hx
  · injection e with e _ _
    injection e with e
    injection e with e1 e2
    subst e1 e2
    exact off_cell hg hr hx
theorem OwnO.set {w : World} {B g o n c : Nat} {l : List Int} (h : OwnO w B (.slice (some ⟨g, o, none⟩) n c) l) (j : Nat) (x : Int) : OwnO (w.setCell ⟨g, o + j, none⟩ (.int .u8 x)) B (.slice (some ⟨g, o, none⟩) n c) (l.set j x) ∧ w.grownBy (w.setCell ⟨g, o + j, none⟩ (.int .u8 x)) (some g) := by
  refine ⟨?_, rfl, rfl, rfl, by simp [World.setCell], fun k _ hk => Below.heap_setCell _ _ _ _ (fun e => hk (by rw [e]))⟩
  rcases h with h | ⟨g', o', c', cur, e, hB, hg, hs, hle, hc, hr⟩
  · have ha := h.addr.2
    rcases ha with ha | ⟨g0, ha⟩
    · cases ha
    · injection ha with ha
      injection ha with e1 e2
      subst e1 e2
      rw [Nat.zero_add]
      exact (h.set j x).1.o
  · injection e with e e3 e4
    injection e with e
    injection e with e1 e2
    subst e1 e2 e3 e4
    refine .inr ⟨g, o, c, _, by rw [List.length_set], hB, set_heap (i := o + j) hg (.int .u8 x), by rw [Array.size_setIfInBounds]; exact hs, by rw [List.length_set]; exact hle, hc, ?_⟩
    rw [Array.toList_setIfInBounds, List.drop_set, if_neg (by omega), show o + j - o = j by omega, List.take_set, List.length_set, hr]
    simp [btV, List.map_set]
set_option maxHeartbeats 8000000 in
theorem sownedO_any (B R o c N : Nat) (ra : Option Addr) (rs : List (Value × List Int)) (w : World) (A : RowsAtO w B R o rs) (hN : rs.length = N) (hra : 0 < N → ra = some ⟨R, o, none⟩) (hBw : B ≤ w.heap.size) (hR : R < w.heap.size)
    (hb : ∀ (i : Nat) (v : Value) (l : List Int), rs[i]? = some (v, l) → l.length + 9 ≤ 140737488355328) (hm : (2 * N + 2) * 24 ≤ 140737488355328) :
    Calls Tryd.prog 14 #[.slice ra N c] w fun e w' => e = .returned (.bool true) ∧ Below B w w' := by
  obtain ⟨i0, hi0, hz0, hz1, hz2⟩ := info_parts info_row
  have I0 := Lib.hid (And.intro hi0 (And.intro hz0 (And.intro hz1 hz2)))
  clear hi0 hz0 hz1 hz2
  have HA := Lib.hid (And.intro A (And.intro hN (And.intro hra hb)))
  have H0 := Lib.hid (OwnRelO.start A)
  clear A hN hra hb
  go_enter Tryd.func14, Tryd.ntmps14
  go_wp2_with fail
  go_loopw [3, 4] (fun vl i wr => ∃ (k : Nat) (L : List Value), k ≤ N ∧ i = .int .i64 (k : Int) ∧ Hid (OwnRelO w wr B R o rs k vl L)) (fun _ i _ => N - (intOf i).toNat)
  case atStart => exact ⟨0, [], by omega, rfl, H0.out⟩
  case round =>
    obtain ⟨k, L, hk, rfl, HK⟩ := hrel
    obtain ⟨wo, hwo⟩ : ∃ wo, wo = wr := ⟨_, rfl⟩
    subst hwo
    by_cases hlt : k < N
    · obtain rfl := HA.out.2.2.1 (by omega)
      obtain ⟨⟨v, l⟩, hkl⟩ : ∃ x, rs[k]? = some x := ⟨_, List.getElem?_eq_getElem (by rw [HA.out.2.1]; exact hlt)⟩
      have ov := HK.rest k v l hkl (Nat.le_refl _)
      obtain ⟨a, cv, rfl, -, -, hlc, hcm⟩ := ov.shape
      obtain ⟨n, hn⟩ : ∃ n, l.length = n := ⟨_, rfl⟩
      have hn9 := HA.out.2.2.2 k _ l hkl
      have HV := Lib.hid (And.intro hkl (And.intro hn (And.intro ov hlc)))
      rw [hn] at hn9 hlc
      have hc0 := HK.cell k _ l hkl
      rw [hn] at hc0
      unfold maxLen at hcm
      clear hkl hn ov
      go_wp2_with fail
      obtain ⟨M, hM⟩ : ∃ M, M = 1 + (k : Int) % 250 := ⟨_, rfl⟩
      rw [← hM]
      have hM0 : 0 ≤ M ∧ M ≤ 255 := by omega
      have HM : Hid (M = markN k) := Lib.hid (by rw [hM]; unfold markN; omega)
      clear hM
      obtain ⟨hM0, hM1⟩ := hM0
      have hcR : ∀ w2 : World, Only (Value.slice a n cv).ownBlock.toList wo w2 → w2.cell? ⟨R, o + k, none⟩ = some (.slice a n cv) := fun w2 ho => by
        have h := HK.cell k _ l HV.out.1
        rw [HV.out.2.1] at h
        rw [← h]
        unfold World.cell?
        rw [ho.block R (cell_lt h) (by have := HA.out.1.off k _ l HV.out.1; rw [HV.out.2.1] at this; simpa using this)]
      have HCR := Lib.hid hcR
      clear hcR hc0
      go_loopw [6] (fun i w2 => ∃ m : Nat, m ≤ n ∧ i = .int .i64 (m : Int) ∧ Hid (OwnO w2 B (.slice a n cv) (List.replicate m M ++ l.drop m) ∧ Only (Value.slice a n cv).ownBlock.toList wo w2)) (fun i _ => n - (intOf i).toNat)
      case atStart => exact ⟨0, by omega, rfl, by have h := HV.out.2.2.1; rw [HV.out.2.1] at h; simpa using h, Only.refl _ _⟩
      case round =>
        obtain ⟨m, hm1, rfl, HF⟩ := hrel
        have hcc := HCR.out wr HF.2
        by_cases hmn : m < n
        · have hml : m < l.length := by rw [HV.out.2.1]; exact hmn
          obtain ⟨g, og, c1, e, -⟩ := HF.1.form (by rw [fill_len (by omega)]; omega)
          have e' : a = some ⟨g, og, none⟩ := by injection e
          subst e'
          clear e
          obtain ⟨x, x0, f0⟩ : ∃ x, wr.cell? ⟨g, og + m, none⟩ = some (.int .u8 x) ∧ wr.frozen? ⟨g, og + m, none⟩ = false := ⟨_, HF.1.at_ (j := m) (x := l[m]) (by rw [List.getElem?_append_right (by simp)]; simp [hml])⟩
          have HL := Lib.hid hml
          clear hml
          go_wp2_with fail
          go_roundw
          case rel =>
            obtain ⟨s1, s2⟩ := HF.1.set m M
            rw [fill_set HL.out] at s1
            exact ⟨m + 1, by omega, by go_num, s1, HF.2.trans (Only.of_grown s2)⟩
          case measure => simp [intOf]; omega
        · have hmn2 : m = n := by omega
          have HF1 : Hid (OwnO wr B (.slice a n cv) (List.replicate n M) ∧ Only (Value.slice a n cv).ownBlock.toList wo wr) := by
            rw [hmn2] at HF
            have h := HF
            rw [show l.drop n = [] from List.drop_of_length_le (by rw [HV.out.2.1]; omega), List.append_nil] at h
            exact h
          rw [show (m : Int) = n by omega]
          clear HF hmn hm1 hmn2
          go_wp2_with fail
          go_loopw [7, 8] (fun vg i w3 => ∃ q : Nat, q ≤ 9 ∧ i = .int .i64 (q : Int) ∧ Hid (MidRelO wo w3 B (.slice a n cv) n M vg q)) (fun _ i _ => 9 - (intOf i).toNat)
          case atStart => exact ⟨0, by omega, rfl, MidRelO.start HV.out.2.1 HF1.out.1 HF1.out.2⟩
          case round =>
            clear hcc
            obtain ⟨q, hq, rfl, HQ⟩ := hrel
            by_cases hq9 : q < 9
            · have hz : B ≤ wr.heap.size := Nat.le_trans (Nat.le_trans hBw HK.below.size) HQ.only.size
              go_wp2_with (at_builtin; refine apLKO _ rfl (.tmp 45) (.tmp 47) rfl B _ _ rfl HQ.own [M] _ 1 1 rfl rfl rfl rfl (by omega) (by simp; omega) hz ?_; intro v' w1 ho1 hg hk; have G1 := Lib.hid (And.intro ho1 (And.intro hg hk)); clear ho1 hg hk)
              go_roundw
              case rel =>
                have ov := HV.out.2.2.1
                rw [HV.out.2.1] at ov
                exact ⟨q + 1, by omega, by go_num, HQ.next ov HV.out.2.1 G1.out.1 (⟨G1.out.2.1.os, G1.out.2.1.tape, G1.out.2.1.output, Nat.le_trans (below1 wr _).size G1.out.2.1.size, fun k hk hn => (G1.out.2.1.block k (Nat.lt_of_lt_of_le hk (below1 wr _).size) hn).trans ((below1 wr _).block k hk)⟩) G1.out.2.2⟩
              case measure => simp [intOf]; omega
            · have hq10 : q = 9 := by omega
              rw [hq10] at HQ
              rw [show (q : Int) = 9 by omega]
              have hc3 := HCR.out wr HQ.only
              have hz : w.heap.size ≤ wr.heap.size := Nat.le_trans HK.below.size HQ.only.size
              obtain ⟨ag, ng, cg, e7⟩ : ∃ ag ng cg, u7 = .slice ag ng cg := by obtain ⟨ag, cg, e, -⟩ := HQ.own.shape; exact ⟨_, _, _, e⟩
              subst e7
              have orow : Hid ((wr.alloc (.cells #[.slice ag ng cg, .slice a n cv] 22)).ownsRow w.heap.size 22 1 u3 (2 * k) L) := Lib.hid (World.ownsRow.alloc (row_only HK.row HQ.only fun b hb hb2 => by
                have h1 := (World.ownsRow.lt HK.row b hb).1
                have h2 := HA.out.1.own k _ l HV.out.1
                rw [HV.out.2.1] at h2
                have h3 := (h2.block b (by simpa using hb2)).2
                omega) _)
              clear hq9 hq hq10
              go_wp2_with (at_builtin; refine wpList_append_own_at _ rfl (.tmp 49) (.tmp 55) 30 rfl w.heap.size 22 i0 _ 1 24 Tryd.underlying30 I0.out.1 I0.out.2.1 I0.out.2.2.1 I0.out.2.2.2 rfl (by decide) _ _ _ rfl orow.out ⟨wr.heap.size, 0, none⟩ 2 2 [.slice ag ng cg, .slice a n cv] rfl rfl ((World.ownsRow_lit (size := 1) (e := 22) wr #[.slice ag ng cg, .slice a n cv] 2 (Nat.le_refl _) (by decide) rfl).cells rfl) (by intro u hu; simp at hu; rcases hu with rfl | rfl <;> rfl) (by unfold maxLen; omega) (by omega) (Nat.le_trans hz (below1 _ _).size) ?_; intro v' w1 own1 grow1 _ hat; have O1 := Lib.hid (And.intro own1 (And.intro grow1 hat)); clear own1 grow1 hat)
              go_roundw
              case rel =>
                refine ⟨k + 1, L ++ [.slice ag ng cg, .slice a n cv], by omega, by go_num, HK.next HA.out.1 hBw hR (by have h := HV.out.1; rw [← HV.out.2.1]; exact h) HV.out.2.1 (by rw [← HM.out]; exact HQ) O1.out.1 O1.out.2.1 ?_⟩
                rcases O1.out.2.2 with h | h
                · exact .inl h
                · exact .inr ⟨_, h, (below1 _ _).size⟩
              case measure => simp [intOf]; omega
    · have hkN : k = N := by omega
      rw [hkN] at HK
      rw [show (k : Int) = N by omega]
      clear hk hlt hkN
      obtain ⟨al, cl, e3⟩ : ∃ al cl, u3 = .slice al (2 * N) cl := by
        rcases HK.row.2 with ⟨h1, h2⟩ | ⟨g, cap, cur, h1, -⟩
        · exact ⟨none, 0, by rw [h1, h2]⟩
        · exact ⟨_, _, h1⟩
      subst e3
      go_wp2_with fail
      go_loop [9] (fun i => ∃ p : Nat, p ≤ 2 * N ∧ i = .int .i64 (p : Int)) (fun i => 2 * N - (intOf i).toNat)
      case atStart => exact ⟨0, by omega, rfl⟩
      case round =>
        obtain ⟨p, hp, rfl⟩ := hrel
        by_cases hp2 : p < 2 * N
        · obtain ⟨v, hLp⟩ : ∃ v, L[p]? = some v := ⟨_, List.getElem?_eq_getElem (by rw [HK.len]; exact hp2)⟩
          obtain ⟨a, n, c2, l, rfl, hn, hmx, hin, hmk, -⟩ := HK.done p v hLp
          obtain ⟨g, cap, e1, -⟩ := World.ownsRow.form HK.row (by omega)
          injection e1 with e1 _ e2
          subst e1
          clear e2
          have hLc : wo.cell? ⟨g, p, none⟩ = some (.slice a n c2) := by rw [World.ownsRow.cellAt HK.row p (by omega)]; exact hLp
          have HP := Lib.hid (And.intro hn (And.intro hin hmk))
          have hnm : n ≤ 9223372036854775807 := by unfold maxLen at hmx; omega
          clear hn hin hmk hLp hmx
          have hmp : markN (p / 2) = 1 + (p : Int) / 2 % 250 := by unfold markN; omega
          have HMP := Lib.hid hmp
          clear hmp
          go_wp2_with fail
          go_loop [10] (fun i => ∃ q : Nat, q ≤ n ∧ i = .int .i64 (q : Int)) (fun i => n - (intOf i).toNat)
          case atStart => exact ⟨0, by omega, rfl⟩
          case round =>
            obtain ⟨q, hq, rfl⟩ := hrel
            by_cases hq2 : q < n
            · obtain ⟨b, o2, x, rfl, hx, x0⟩ := HP.out.2.1.one (i := q) (by rw [HP.out.1]; exact hq2)
              have hxm := (HP.out.2.2 x (List.mem_of_getElem? hx)).trans HMP.out
              subst hxm
              clear hx
              go_wp2_with fail
              go_round
              case rel => exact ⟨q + 1, by omega, by go_num⟩
              case measure => simp [intOf]; omega
            · go_wp2_with fail
              go_round
              case rel => exact ⟨p + 1, by omega, by go_num⟩
              case measure => simp [intOf]; omega
        · go_wp2_with fail
          go_ret
          exact ⟨rfl, HK.below⟩
end Go.Proofs.YtophhnolnlbecaaDoor
