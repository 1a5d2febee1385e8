/- The contracts of Lent and Kept over bytes: no statement is proved here. -/
import Derived.Test.YtdlgngnibbaamaaDoorKOwn
namespace Go.Proofs.YtdlgngnibbaamaaDoor
open Go.RowKit
set_option maxRecDepth 100000

set_option maxHeartbeats 4000000 in
theorem blent_any (a : Option Addr) (c : Nat) (q : List Int) (w : World) (ha : InB w a q) (h0 : a = none → c = 0 ∧ q = []) (hl : q.length + 2 ≤ 140737488355328) :
    Calls Tryd.prog 22 #[.slice a q.length c] w fun e w' => e = .returned (.slice (some ⟨w.heap.size, 0, none⟩) q.length (q.length + 2)) ∧ OwnB w' w.heap.size (.slice (some ⟨w.heap.size, 0, none⟩) (q.length + 2) (q.length + 2)) (q ++ [171, 172]) ∧ Below w.heap.size w w' := by
  obtain ⟨cur, hcur, hmk⟩ := make_any (P := Tryd.prog) 28 5 _ 1 1 Tryd.underlying28 info_byte 0 (q.length + 2) (by omega) (by omega) (by omega)
  replace hmk : ∀ w : World, (Instr.makeSlice 28 (.int .i64 0) (.int .i64 ((q.length : Int) + 2))).run Tryd.prog w = .ok (.slice (some ⟨w.heap.size, 0, none⟩) 0 (q.length + 2)) (w.alloc (.cells cur 5)) := fun w => by have := hmk w; simpa using this
  obtain ⟨i0, hi0, hz0, hz1, hz2⟩ := info_parts info_byte
  have I0 := Lib.hid (And.intro hi0 hz1)
  have HA := Lib.hid (And.intro ha h0)
  have HM := Lib.hid (World.ownsRow_made (base := w.heap.size) (size := 1) (e := 5) w cur (q.length + 2) (Nat.le_refl _) (by unfold maxLen; omega) (by omega))
  clear hi0 hz0 hz1 hz2 ha h0 hcur
  go_enter Tryd.func22, Tryd.ntmps22
  go_wp2_with (first
    | (at_builtin; refine wpList_append_fits_any _ rfl (.tmp 7) (.tmp 8) 28 rfl w.heap.size 5 i0 1 Tryd.underlying28 I0.out.1 I0.out.2 w.heap.size 0 (q.length + 2) [] rfl HM.out a q.length c (btV q) rfl (by rw [btV_len]; omega) (fun h => by obtain ⟨h1, h2⟩ := HA.out.2 h; subst h1 h2; exact ⟨rfl, rfl⟩) (fun ad e j u hj => by subst e; rw [btV, List.getElem?_map, Option.map_eq_some_iff] at hj; obtain ⟨y, hy, rfl⟩ := hj; obtain ⟨bb, oo, e, hc⟩ := (HA.out.1.then_ (below1 _ (.cells cur 5))) j y hy; injection e with e; subst e; rw [show (⟨bb, oo, none⟩ : Addr).add j = ⟨bb, oo + j, none⟩ by unfold Addr.add; split <;> simp_all]; exact hc) (btV_one q) (by omega) ?_; intro w1 own1 grow1; simp only [Nat.zero_add, List.nil_append] at own1 ⊢; have O1 := Lib.hid (And.intro own1 ((below1 w (.cells cur 5)).grown grow1 (by simp) (by simp))); clear own1 grow1)
    | (at_builtin; refine wpList_append_fits_any _ rfl (.tmp 10) (.tmp 11) 28 rfl w.heap.size 5 i0 1 Tryd.underlying28 I0.out.1 I0.out.2 w.heap.size q.length (q.length + 2) (btV q) rfl (O1.out.1.alloc _) (some ⟨w1.heap.size, 0, none⟩) 2 2 (btV [171, 172]) rfl rfl (fun h => by cases h) (fun ad e j u hj => by injection e with e; subst e; exact news_at w1 _ _ _ rfl j u hj) (btV_one _) (by omega) ?_; intro w2 own2 grow2; have O2 := Lib.hid (And.intro own2 ((O1.out.2.alloc O1.out.2.size _).grown grow2 (by have := O1.out.2.size; simp; omega) (by simp))); clear own2 grow2))
  go_ret
  refine ⟨rfl, ?_, O2.out.2⟩
  have h := O2.out.1
  unfold OwnB
  rw [List.length_append, btV_append]
  exact h

theorem OwnB.inB {w : World} {B g n c : Nat} {l : List Int} (h : OwnB w B (.slice (some ⟨g, 0, none⟩) n c) l) : InB w (some ⟨g, 0, none⟩) l := fun i x hx => ⟨g, 0, rfl, by rw [Nat.zero_add]; exact (h.at_ hx).1⟩
theorem InB.prefix_ {w : World} {a : Option Addr} {l m : List Int} (h : InB w a (l ++ m)) : InB w a l := fun i x hx => h i x (by rw [List.getElem?_append_left (lt_of_get hx)]; exact hx)
set_option maxHeartbeats 4000000 in
theorem bkept_any (B g : Nat) (a : Option Addr) (c : Nat) (q : List Int) (w : World) (own : OwnB w B (.slice (some ⟨g, 0, none⟩) (q.length + 2) (q.length + 2)) (q ++ [171, 172])) (ha : InB w a q) (hl : q.length + 2 ≤ 140737488355328) :
    Calls Tryd.prog 25 #[.slice (some ⟨g, 0, none⟩) q.length (q.length + 2), .slice a q.length c] w fun e w' => e = .returned (.bool true) ∧ Only [g] w w' := by
  have m1 : (q ++ [(171 : Int), 172])[q.length]? = some 171 := by simp
  have m2 : (q ++ [(171 : Int), 172])[q.length + 1]? = some 172 := by rw [List.getElem?_append_right (by omega)]; simp
  have HO := Lib.hid (And.intro own (And.intro ha (And.intro m1 m2)))
  have HSM := Lib.hid (bsame_any (some ⟨g, 0, none⟩) a (q.length + 2) c q.length q.length q q w rfl rfl own.inB.prefix_ ha (by omega))
  clear own ha m1 m2
  go_enter Tryd.func25, Tryd.ntmps25
  go_wp2_with (first
    | (go_at_call 18; refine HSM.out.mono ?_; rintro e w2 ⟨rfl, hb2⟩; simp only [decide_true]; have ho := HO.out.1.then_ hb2; have k1 := (ho.at_ HO.out.2.2.1).1; have k2 := (ho.at_ HO.out.2.2.2).1; have O2 := Lib.hid (And.intro ho hb2); clear ho hb2))
  go_loopw [7] (fun i wr => ∃ k : Nat, k ≤ q.length + 2 ∧ i = .int .i64 k ∧ OwnB wr B (.slice (some ⟨g, 0, none⟩) (q.length + 2) (q.length + 2)) (List.replicate k 99 ++ (q ++ [171, 172]).drop k) ∧ Only [g] w wr) (fun i _ => q.length + 2 - (intOf i).toNat)
  case atStart => exact ⟨0, by omega, rfl, by simpa using O2.out.1, Only.of_below O2.out.2⟩
  case round =>
    obtain ⟨k, hk, rfl, ho, hg⟩ := hrel
    have HR := Lib.hid (And.intro ho hg)
    by_cases hkl : k < q.length + 2
    · have hk2 : k < (q ++ [(171 : Int), 172]).length := by simp; omega
      obtain ⟨x, x0, f0⟩ : ∃ x, wr.cell? ⟨g, k, none⟩ = some (.int .u8 x) ∧ wr.frozen? ⟨g, k, none⟩ = false := ⟨_, ho.at_ (j := k) (x := (q ++ [(171 : Int), 172])[k]) (by rw [List.getElem?_append_right (by simp), List.length_replicate, Nat.sub_self, List.getElem?_drop, Nat.add_zero, List.getElem?_eq_getElem hk2])⟩
      have HK := Lib.hid hk2
      clear ho hg hk2 k1 k2
      go_wp2_with fail
      go_roundw
      case rel =>
        obtain ⟨s1, s2⟩ := HR.out.1.set k 99
        rw [fill_set HK.out] at s1
        exact ⟨k + 1, by omega, by go_num, s1, HR.out.2.trans (Only.of_grown s2)⟩
      case measure => simp [intOf]; omega
    · clear ho hg k1 k2
      go_wp2_with fail
      go_ret
      exact ⟨rfl, HR.out.2⟩
end Go.Proofs.YtdlgngnibbaamaaDoor
