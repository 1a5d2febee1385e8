/- What the laws of layer 2 call over bytes: Lent, Kept, Owned. No statement is proved here. -/
import Derived.Test.YtjfgmcmnpekahaaDoorBWrite
namespace Go.Proofs.YtjfgmcmnpekahaaDoor
open Go.RowKit
set_option maxRecDepth 100000

theorem OwnB.set {w : World} {B g n c : Nat} {l : List Int} (h : OwnB w B (.slice (some ⟨g, 0, none⟩) n c) l) (j : Nat) (x : Int) : OwnB (w.setCell ⟨g, j, none⟩ (.int .u8 x)) B (.slice (some ⟨g, 0, none⟩) n c) (l.set j x) ∧ w.grownBy (w.setCell ⟨g, j, none⟩ (.int .u8 x)) (some g) := by
  have hn : n = l.length := by
    obtain ⟨h1, h2⟩ := h
    rcases h2 with ⟨hv, _⟩ | ⟨g', cap, cur, hv, _⟩
    · cases hv
    · injection hv
  subst hn
  obtain ⟨h1, h2⟩ := World.ownsRow.stored h j (.int .u8 x)
  refine ⟨?_, h2⟩
  unfold OwnB
  rw [List.length_set, btV, List.map_set]
  exact h1
theorem OwnB.at_ {w : World} {B g n c : Nat} {l : List Int} (h : OwnB w B (.slice (some ⟨g, 0, none⟩) n c) l) {j : Nat} {x : Int} (hx : l[j]? = some x) : w.cell? ⟨g, j, none⟩ = some (.int .u8 x) ∧ w.frozen? ⟨g, j, none⟩ = false := by
  have hn : n = l.length := by
    obtain ⟨h1, h2⟩ := h
    rcases h2 with ⟨hv, _⟩ | ⟨g', cap, cur, hv, _⟩
    · cases hv
    · injection hv
  subst hn
  refine ⟨?_, World.ownsRow.frozenAt h j⟩
  rw [World.ownsRow.cellAt h j (by have := lt_of_get hx; omega), btV, List.getElem?_map, hx]
  rfl
end Go.Proofs.YtjfgmcmnpekahaaDoor
namespace Go.Proofs.YtjfgmcmnpekahaaDoor
open Go.RowKit
set_option maxRecDepth 100000

/-- A row that was written over so far. -/
theorem fill_set {l : List Int} {k : Nat} (hk : k < l.length) (x : Int) : (List.replicate k x ++ l.drop k).set k x = List.replicate (k + 1) x ++ l.drop (k + 1) := by
  rw [List.set_append_right _ _ (by simp), List.length_replicate, Nat.sub_self, List.drop_eq_getElem_cons hk, List.set_cons_zero, List.replicate_succ', List.append_assoc]
  rfl
theorem fill_len {l : List Int} {k : Nat} (hk : k ≤ l.length) (x : Int) : (List.replicate k x ++ l.drop k).length = l.length := by simp; omega
theorem OwnB.slice {w : World} {B n c : Nat} {a : Option Addr} {l : List Int} (h : OwnB w B (.slice a n c) l) : n = l.length := by
  obtain ⟨a', c', e, -⟩ := h.shape
  injection e
theorem OwnB.grown {w w' : World} {B : Nat} {v : Value} {l : List Int} {row : Option Nat} (h : OwnB w B v l) (hg : w.grownBy w' row) (hn : ∀ g, v.ownBlock = some g → row ≠ some g) : OwnB w' B v l :=
  h.keep fun g hg' => hg.block g (h.block g hg').2 (fun e => hn g hg' e.symm)

structure OwnedAt (w wr : World) (B : Nat) (v1 v2 : Value) (l1 l2 : List Int) : Prop where
  one : OwnB wr B v1 l1
  two : OwnB wr B v2 l2
  off : ∀ g, v1.ownBlock = some g → v2.ownBlock ≠ some g
  below : Below B w wr
set_option maxHeartbeats 8000000 in
theorem owned_any (B : Nat) (v1 v2 : Value) (l1 l2 : List Int) (w : World) (o1 : OwnB w B v1 l1) (o2 : OwnB w B v2 l2) (hd : ∀ g, v1.ownBlock = some g → v2.ownBlock ≠ some g) (hB : B ≤ w.heap.size) (h1 : l1.length + 2 ≤ 140737488355328) (h2 : l2.length + 2 ≤ 140737488355328) :
    Calls Tryd.prog 14 #[v1, v2] w fun e w' => e = .returned (.bool true) ∧ Below B w w' := by
  have HS := Lib.hid (OwnedAt.mk o1 o2 hd (Below.refl B w))
  obtain ⟨a1, c1, rfl, -, -, -, -⟩ := o1.shape
  obtain ⟨a2, c2, rfl, -, -, -, -⟩ := o2.shape
  clear o1 o2 hd
  go_enter Tryd.func14, Tryd.ntmps14
  go_wp2_with fail
  go_loopw [5] (fun i wr => ∃ k : Nat, k ≤ l1.length ∧ i = .int .i64 k ∧ OwnedAt w wr B (.slice a1 l1.length c1) (.slice a2 l2.length c2) (List.replicate k 1 ++ l1.drop k) l2) (fun i _ => l1.length - (intOf i).toNat)
  case atStart => exact ⟨0, by omega, rfl, by simpa using HS.out⟩
  case round =>
    obtain ⟨k, hk, rfl, hR⟩ := hrel
    have HR := Lib.hid hR
    by_cases hkl : k < l1.length
    · obtain ⟨g, c, e, -⟩ := hR.one.form (by rw [fill_len hk]; omega)
      have e' : a1 = some ⟨g, 0, none⟩ := by injection e
      subst e'
      clear e
      obtain ⟨x, x0, f0⟩ : ∃ x, wr.cell? ⟨g, k, none⟩ = some (.int .u8 x) ∧ wr.frozen? ⟨g, k, none⟩ = false := ⟨_, hR.one.at_ (j := k) (x := l1[k]) (by rw [List.getElem?_append_right (by simp)]; simp [hkl])⟩
      clear hR
      go_wp2_with fail
      go_roundw
      case rel =>
        obtain ⟨s1, s2⟩ := HR.out.one.set k 1
        rw [fill_set hkl] at s1
        exact ⟨k + 1, by omega, by go_num, s1, HR.out.two.grown s2 (fun b hb e => HR.out.off g rfl (by rw [hb]; exact e.symm)), HR.out.off, HR.out.below.grown s2 (Nat.le_trans hB HR.out.below.size) (fun b hb => by injection hb with hb; subst hb; exact (HR.out.one.block g rfl).1)⟩
      case measure => simp [intOf]; omega
    · have hk1 : k = l1.length := by omega
      subst hk1
      have e1 : List.replicate l1.length 1 ++ l1.drop l1.length = List.replicate l1.length 1 := by simp
      rw [e1] at HR
      clear hR
      go_wp2_with fail
      go_loopw [6] (fun i wr => ∃ k : Nat, k ≤ l2.length ∧ i = .int .i64 k ∧ OwnedAt w wr B (.slice a1 l1.length c1) (.slice a2 l2.length c2) (List.replicate l1.length 1) (List.replicate k 2 ++ l2.drop k)) (fun i _ => l2.length - (intOf i).toNat)
      case atStart => exact ⟨0, by omega, rfl, by simpa using HR.out⟩
      case round =>
        obtain ⟨k, hk2, rfl, hR⟩ := hrel
        replace HR := Lib.hid hR
        by_cases hkl2 : k < l2.length
        · obtain ⟨g, c, e, -⟩ := hR.two.form (by rw [fill_len hk2]; omega)
          have e' : a2 = some ⟨g, 0, none⟩ := by injection e
          subst e'
          clear e
          obtain ⟨x, x0, f0⟩ : ∃ x, wr.cell? ⟨g, k, none⟩ = some (.int .u8 x) ∧ wr.frozen? ⟨g, k, none⟩ = false := ⟨_, hR.two.at_ (j := k) (x := l2[k]) (by rw [List.getElem?_append_right (by simp)]; simp [hkl2])⟩
          clear hR
          go_wp2_with fail
          go_roundw
          case rel =>
            obtain ⟨s1, s2⟩ := HR.out.two.set k 2
            rw [fill_set hkl2] at s1
            exact ⟨k + 1, by omega, by go_num, HR.out.one.grown s2 (fun b hb e => HR.out.off b hb (by rw [← e]; rfl)), s1, HR.out.off, HR.out.below.grown s2 (Nat.le_trans hB HR.out.below.size) (fun b hb => by injection hb with hb; subst hb; exact (HR.out.two.block g rfl).1)⟩
          case measure => simp [intOf]; omega
        · have hk3 : k = l2.length := by omega
          subst hk3
          have e2 : List.replicate l2.length 2 ++ l2.drop l2.length = List.replicate l2.length 2 := by simp
          rw [e2] at HR
          have hz := Nat.le_trans hB HR.out.below.size
          clear hR
          go_wp2_with (first
            | (at_builtin; refine apL _ rfl (.tmp 27) (.tmp 28) rfl B _ _ rfl HR.out.one [1, 1] _ 2 2 rfl rfl rfl rfl (by simp; omega) hz ?_; intro u1 w1 hg1; have t1 := HR.out.two.grown hg1.grow (fun b hb e => HR.out.off b e (by rw [hb])); have G1 := Lib.hid (And.intro hg1 (And.intro t1 (hg1.below HR.out.one HR.out.below (Nat.le_refl _) hz))); have hz1 := Nat.le_trans hz hg1.size; clear hg1 t1)
            | (at_builtin; refine apL _ rfl (.tmp 30) (.tmp 31) rfl B _ _ rfl G1.out.2.1 [2, 2] _ 2 2 rfl rfl rfl rfl (by simp; omega) hz1 ?_; intro u2 w2 hg2; have p1 := G1.out.1.own.grown hg2.grow (fun b hb e => by rcases G1.out.1.at_ with q | ⟨gg, q, q2⟩; exact HR.out.off b (q ▸ hb) e; (rw [q] at hb; injection hb with hb; have := (HR.out.two.block b e).2; omega)); have G2 := Lib.hid (And.intro p1 (And.intro hg2.own (hg2.below G1.out.2.1 G1.out.2.2 (Nat.le_refl _) hz1))); obtain ⟨b1, d1, rfl, -, -, -, -⟩ := p1.shape; obtain ⟨b2, d2, rfl, -, -, -, -⟩ := hg2.own.shape; clear hg2 p1))
          have n1 : (List.replicate l1.length (1 : Int) ++ [1, 1]).length = l1.length + 2 := by simp
          have n2 : (List.replicate l2.length (2 : Int) ++ [2, 2]).length = l2.length + 2 := by simp
          have r1 : ∀ (k : Nat) (x : Int), (List.replicate l1.length (1 : Int) ++ [1, 1])[k]? = some x → x = 1 := fun k x hx => by have := List.mem_of_getElem? hx; simp at this; omega
          have r2 : ∀ (k : Nat) (x : Int), (List.replicate l2.length (2 : Int) ++ [2, 2])[k]? = some x → x = 2 := fun k x hx => by have := List.mem_of_getElem? hx; simp at this; omega
          generalize List.replicate l1.length (1 : Int) ++ [1, 1] = m1 at *
          generalize List.replicate l2.length (2 : Int) ++ [2, 2] = m2 at *
          have i1 : InB w2 b1 m1 := by obtain ⟨a', c', e, h, -⟩ := G2.out.1.shape; injection e with e _ _; subst e; exact h
          have i2 : InB w2 b2 m2 := by obtain ⟨a', c', e, h, -⟩ := G2.out.2.1.shape; injection e with e _ _; subst e; exact h
          have GG := Lib.hid (And.intro (And.intro r1 r2) (And.intro (And.intro n1 n2) (And.intro i1 i2)))
          have hb2 := G2.out.2.2
          have G3 := Lib.hid hb2
          clear r1 r2 HR G1 G2 HS i1 i2 n1 n2 hb2
          go_loopw [7] (fun i wr => ∃ k : Nat, k ≤ l1.length + 2 ∧ i = .int .i64 k ∧ Below w2.heap.size w2 wr) (fun i _ => l1.length + 2 - (intOf i).toNat)
          case atStart => exact ⟨0, by omega, rfl, Below.refl _ _⟩
          case round =>
            obtain ⟨k, hk4, rfl, hbw⟩ := hrel
            by_cases hk5 : k < l1.length + 2
            · obtain ⟨bb, o, x, rfl, hx, x0⟩ := (GG.out.2.2.1.then_ hbw).one (i := k) (by rw [GG.out.2.1.1]; exact hk5)
              obtain rfl := GG.out.1.1 k x hx
              have HBW := Lib.hid hbw
              clear hx hbw
              go_wp2_with fail
              go_roundw
              case rel => exact ⟨k + 1, by omega, by go_num, HBW.out⟩
              case measure => simp [intOf]; omega
            · have HBW := Lib.hid hbw
              clear hbw
              go_wp2_with fail
              go_loopw [8] (fun i wr => ∃ k : Nat, k ≤ l2.length + 2 ∧ i = .int .i64 k ∧ Below w2.heap.size w2 wr) (fun i _ => l2.length + 2 - (intOf i).toNat)
              case atStart => exact ⟨0, by omega, rfl, HBW.out⟩
              case round =>
                obtain ⟨k, hk6, rfl, hbw⟩ := hrel
                by_cases hk7 : k < l2.length + 2
                · obtain ⟨bb, o, x, rfl, hx, x0⟩ := (GG.out.2.2.2.then_ hbw).one (i := k) (by rw [GG.out.2.1.2]; exact hk7)
                  obtain rfl := GG.out.1.2 k x hx
                  replace HBW := Lib.hid hbw
                  clear hx hbw
                  go_wp2_with fail
                  go_roundw
                  case rel => exact ⟨k + 1, by omega, by go_num, HBW.out⟩
                  case measure => simp [intOf]; omega
                · replace HBW := Lib.hid hbw
                  clear hbw
                  go_wp2_with fail
                  go_ret
                  exact ⟨rfl, G3.out.trans (HBW.out.mono (Nat.le_trans hB G3.out.size))⟩
end Go.Proofs.YtjfgmcmnpekahaaDoor
namespace Go.Proofs.YtjfgmcmnpekahaaDoor
open Go.RowKit
set_option maxRecDepth 100000

set_option maxHeartbeats 4000000 in
theorem blent_any (a : Option Addr) (c : Nat) (q : List Int) (w : World) (ha : InB w a q) (h0 : a = none → c = 0 ∧ q = []) (hl : q.length + 2 ≤ 140737488355328) :
    Calls Tryd.prog 17 #[.slice a q.length c] w fun e w' => e = .returned (.slice (some ⟨w.heap.size, 0, none⟩) q.length (q.length + 2)) ∧ OwnB w' w.heap.size (.slice (some ⟨w.heap.size, 0, none⟩) (q.length + 2) (q.length + 2)) (q ++ [171, 172]) ∧ Below w.heap.size w w' := by
  obtain ⟨cur, hcur, hmk⟩ := make_any (P := Tryd.prog) 28 5 _ 1 1 Tryd.underlying28 info_byte 0 (q.length + 2) (by omega) (by omega) (by omega)
  replace hmk : ∀ w : World, (Instr.makeSlice 28 (.int .i64 0) (.int .i64 ((q.length : Int) + 2))).run Tryd.prog w = .ok (.slice (some ⟨w.heap.size, 0, none⟩) 0 (q.length + 2)) (w.alloc (.cells cur 5)) := fun w => by have := hmk w; simpa using this
  obtain ⟨i0, hi0, hz0, hz1, hz2⟩ := info_parts info_byte
  have I0 := Lib.hid (And.intro hi0 hz1)
  have HA := Lib.hid (And.intro ha h0)
  have HM := Lib.hid (World.ownsRow_made (base := w.heap.size) (size := 1) (e := 5) w cur (q.length + 2) (Nat.le_refl _) (by unfold maxLen; omega) (by omega))
  clear hi0 hz0 hz1 hz2 ha h0 hcur
  go_enter Tryd.func17, Tryd.ntmps17
  go_wp2_with (first
    | (at_builtin; refine wpList_append_fits_any _ rfl (.tmp 7) (.tmp 8) 28 rfl w.heap.size 5 i0 1 Tryd.underlying28 I0.out.1 I0.out.2 w.heap.size 0 (q.length + 2) [] rfl HM.out a q.length c (btV q) rfl (by rw [btV_len]; omega) (fun h => by obtain ⟨h1, h2⟩ := HA.out.2 h; subst h1 h2; exact ⟨rfl, rfl⟩) (fun ad e j u hj => by subst e; rw [btV, List.getElem?_map, Option.map_eq_some_iff] at hj; obtain ⟨y, hy, rfl⟩ := hj; obtain ⟨bb, oo, e, hc⟩ := (HA.out.1.then_ (below1 _ (.cells cur 5))) j y hy; injection e with e; subst e; rw [show (⟨bb, oo, none⟩ : Addr).add j = ⟨bb, oo + j, none⟩ by unfold Addr.add; split <;> simp_all]; exact hc) (btV_one q) (by omega) ?_; intro w1 own1 grow1; simp only [Nat.zero_add, List.nil_append] at own1 ⊢; have O1 := Lib.hid (And.intro own1 ((below1 w (.cells cur 5)).grown grow1 (by simp) (by simp))); clear own1 grow1)
    | (at_builtin; refine wpList_append_fits_any _ rfl (.tmp 10) (.tmp 11) 28 rfl w.heap.size 5 i0 1 Tryd.underlying28 I0.out.1 I0.out.2 w.heap.size q.length (q.length + 2) (btV q) rfl (O1.out.1.alloc _) (some ⟨w1.heap.size, 0, none⟩) 2 2 (btV [171, 172]) rfl rfl (fun h => by cases h) (fun ad e j u hj => by injection e with e; subst e; exact news_at w1 _ _ _ rfl j u hj) (btV_one _) (by omega) ?_; intro w2 own2 grow2; have O2 := Lib.hid (And.intro own2 ((O1.out.2.alloc O1.out.2.size _).grown grow2 (by have := O1.out.2.size; simp; omega) (by simp))); clear own2 grow2))
  go_ret
  refine ⟨rfl, ?_, O2.out.2⟩
  have h := O2.out.1
  unfold OwnB
  rw [List.length_append, btV_append]
  exact h

theorem OwnB.inB {w : World} {B g n c : Nat} {l : List Int} (h : OwnB w B (.slice (some ⟨g, 0, none⟩) n c) l) : InB w (some ⟨g, 0, none⟩) l := fun i x hx => ⟨g, 0, rfl, by rw [Nat.zero_add]; exact (h.at_ hx).1⟩
theorem InB.prefix_ {w : World} {a : Option Addr} {l m : List Int} (h : InB w a (l ++ m)) : InB w a l := fun i x hx => h i x (by rw [List.getElem?_append_left (lt_of_get hx)]; exact hx)
set_option maxHeartbeats 4000000 in
theorem bkept_any (B g : Nat) (a : Option Addr) (c : Nat) (q : List Int) (w : World) (own : OwnB w B (.slice (some ⟨g, 0, none⟩) (q.length + 2) (q.length + 2)) (q ++ [171, 172])) (ha : InB w a q) (hl : q.length + 2 ≤ 140737488355328) :
    Calls Tryd.prog 20 #[.slice (some ⟨g, 0, none⟩) q.length (q.length + 2), .slice a q.length c] w fun e w' => e = .returned (.bool true) ∧ Only [g] w w' := by
  have m1 : (q ++ [(171 : Int), 172])[q.length]? = some 171 := by simp
  have m2 : (q ++ [(171 : Int), 172])[q.length + 1]? = some 172 := by rw [List.getElem?_append_right (by omega)]; simp
  have HO := Lib.hid (And.intro own (And.intro ha (And.intro m1 m2)))
  have HSM := Lib.hid (bsame_any (some ⟨g, 0, none⟩) a (q.length + 2) c q.length q.length q q w rfl rfl own.inB.prefix_ ha (by omega))
  clear own ha m1 m2
  go_enter Tryd.func20, Tryd.ntmps20
  go_wp2_with (first
    | (go_at_call 13; refine HSM.out.mono ?_; rintro e w2 ⟨rfl, hb2⟩; simp only [decide_true]; have ho := HO.out.1.then_ hb2; have k1 := (ho.at_ HO.out.2.2.1).1; have k2 := (ho.at_ HO.out.2.2.2).1; have O2 := Lib.hid (And.intro ho hb2); clear ho hb2))
  go_loopw [7] (fun i wr => ∃ k : Nat, k ≤ q.length + 2 ∧ i = .int .i64 k ∧ OwnB wr B (.slice (some ⟨g, 0, none⟩) (q.length + 2) (q.length + 2)) (List.replicate k 99 ++ (q ++ [171, 172]).drop k) ∧ Only [g] w wr) (fun i _ => q.length + 2 - (intOf i).toNat)
  case atStart => exact ⟨0, by omega, rfl, by simpa using O2.out.1, Only.of_below O2.out.2⟩
  case round =>
    obtain ⟨k, hk, rfl, ho, hg⟩ := hrel
    have HR := Lib.hid (And.intro ho hg)
    by_cases hkl : k < q.length + 2
    · have hk2 : k < (q ++ [(171 : Int), 172]).length := by simp; omega
      obtain ⟨x, x0, f0⟩ : ∃ x, wr.cell? ⟨g, k, none⟩ = some (.int .u8 x) ∧ wr.frozen? ⟨g, k, none⟩ = false := ⟨_, ho.at_ (j := k) (x := (q ++ [(171 : Int), 172])[k]) (by rw [List.getElem?_append_right (by simp), List.length_replicate, Nat.sub_self, List.getElem?_drop, Nat.add_zero, List.getElem?_eq_getElem hk2])⟩
      have HK := Lib.hid hk2
      clear ho hg hk2 k1 k2
      go_wp2_with fail
      go_roundw
      case rel =>
        obtain ⟨s1, s2⟩ := HR.out.1.set k 99
        rw [fill_set HK.out] at s1
        exact ⟨k + 1, by omega, by go_num, s1, HR.out.2.trans (Only.of_grown s2)⟩
      case measure => simp [intOf]; omega
    · clear ho hg k1 k2
      go_wp2_with fail
      go_ret
      exact ⟨rfl, HR.out.2⟩
end Go.Proofs.YtjfgmcmnpekahaaDoor
