/- The law SpaceUndo over the contracts. No statement is proved here. -/
import Derived.Test.YteoekfmjlmpmgaaHSame
import Derived.Test.YteoekfmjlmpmgaaHUndo
namespace Go.Proofs.Yteoekfmjlmpmgaa
open Go.RowKit
set_option maxRecDepth 100000

theorem SpAt.any {Sp : World → List Nat → Nat → List Int → Prop} {W w : World} {a : Nat} {L : List Int} (P : P13 W Sp) (h : SpAt Sp W W w a L) : L.length ≤ 65536 := by
  obtain ⟨F, h1, -⟩ := h.sp
  exact (P.len h1).2
/-- What stands once pages were taken: the two rows of what Used told, the row of what was taken, and the space. -/
structure Und (Sp : World → List Nat → Nat → List Int → Prop) (W w : World) (B0 B1 : Nat) (sa : Nat) (L0 : List Int) (v1 v2 vt : Value) (T : List Nat) (L : List Int) : Prop where
  one : OwnI w B0 v1 (areL L0 1)
  two : OwnI w B0 v2 (areL L0 2)
  tk : OwnI w B1 vt (natI T)
  sp : SpK Sp W W w (v1.ownBlock.toList ++ v2.ownBlock.toList ++ vt.ownBlock.toList) sa L
  low : (∀ g, v1.ownBlock = some g → g < B1) ∧ ∀ g, v2.ownBlock = some g → g < B1
  base : W.heap.size ≤ B1 ∧ B1 ≤ w.heap.size
theorem Und.step {Sp : World → List Nat → Nat → List Int → Prop} {W w : World} {B0 B1 sa : Nat} {L0 L L' : List Int} {v1 v2 vt : Value} {T : List Nat} {r : Value} {f : FuncId} {args : Array Value} (h : Und Sp W w B0 B1 sa L0 v1 v2 vt T L)
    (c : ∀ F, Sp w F sa L → Calls Try.prog f args w (SpTo Sp w F sa L' r)) : Calls Try.prog f args w fun e w' => e = .returned r ∧ Und Sp W w' B0 B1 sa L0 v1 v2 vt T L' := by
  refine (h.sp.stepS (L' := L') (r := r) (Nat.le_refl _) c).mono fun e w' k => ?_
  obtain ⟨he, k1, k2, k3⟩ := k
  exact ⟨he, h.one.stay k2 fun g hg => by simp [hg], h.two.stay k2 fun g hg => by simp [hg], h.tk.stay k2 fun g hg => by simp [hg], k1, h.low, h.base.1, Nat.le_trans h.base.2 k3⟩
/-- One more is written down. -/
theorem Und.put {Sp : World → List Nat → Nat → List Int → Prop} {W w w' : World} {B0 B1 sa : Nat} {L0 L : List Int} {v1 v2 vt vt' : Value} {T : List Nat} {t : Nat} (P : P13 W Sp) (h : Und Sp W w B0 B1 sa L0 v1 v2 vt T L) (hg : GrewI B1 w w' vt vt' (natI T ++ [(t : Int)])) : Und Sp W w' B0 B1 sa L0 v1 v2 vt' (T ++ [t]) L := by
  have hne : ∀ v : Value, (∀ g, v.ownBlock = some g → g < B1) → ∀ g, v.ownBlock = some g → vt.ownBlock ≠ some g := fun v hv g hg' e => by
    have := (h.tk.block g e).1
    have := hv g hg'
    omega
  refine ⟨h.one.grown hg.grow (hne v1 h.low.1), h.two.grown hg.grow (hne v2 h.low.2), by rw [natI_snoc]; exact hg.own, ?_, h.low, h.base.1, Nat.le_trans h.base.2 hg.size⟩
  refine h.sp.grown P (Nat.le_refl _) hg.grow (fun g e => ⟨by simp [e], Nat.le_trans h.base.1 (h.tk.block g e).1⟩) fun k hk => ?_
  rcases List.mem_append.1 hk with hk | hk
  · exact .inl (List.mem_append.2 (.inl hk))
  · have hk' : vt'.ownBlock = some k := by simpa using hk
    rcases hg.at_ with h1 | ⟨g, h1, h2⟩
    · exact .inl (by simp [← h1, hk'])
    · rw [h1] at hk'
      injection hk' with hk'
      subst hk'
      exact .inr ⟨h2, (hg.own.block g h1).2⟩
theorem Und.then_ {Sp : World → List Nat → Nat → List Int → Prop} {W w w' : World} {B0 B1 sa : Nat} {L0 L : List Int} {v1 v2 vt : Value} {T : List Nat} (P : P13 W Sp) (h : Und Sp W w B0 B1 sa L0 v1 v2 vt T L) (hb : Below w.heap.size w w') : Und Sp W w' B0 B1 sa L0 v1 v2 vt T L :=
  ⟨h.one.then_ hb, h.two.then_ hb, h.tk.then_ hb, h.sp.then_ P hb, h.low, h.base.1, Nat.le_trans h.base.2 hb.size⟩
theorem Und.cell {Sp : World → List Nat → Nat → List Int → Prop} {W w : World} {B0 B1 sa : Nat} {L0 L : List Int} {v1 v2 : Value} {at_ : Option Addr} {n ct : Nat} {T : List Nat} (h : Und Sp W w B0 B1 sa L0 v1 v2 (.slice at_ n ct) T L) {r t : Nat} (ht : T[r]? = some t) :
    ∃ b o, at_ = some ⟨b, o, none⟩ ∧ w.cell? ⟨b, o + r, none⟩ = some (.int .i64 (t : Int)) := by
  obtain ⟨a', c', e, hin, -⟩ := h.tk.shape
  injection e with e
  subst e
  exact hin r t (natI_get ht)
theorem Und.form {Sp : World → List Nat → Nat → List Int → Prop} {W w : World} {B0 B1 sa : Nat} {L0 L : List Int} {v1 v2 vt : Value} {T : List Nat} (h : Und Sp W w B0 B1 sa L0 v1 v2 vt T L) : ∃ a c, vt = .slice a T.length c := by
  obtain ⟨a', c', e, -⟩ := h.tk.shape
  exact ⟨a', c', by rw [e, natI_len]⟩
theorem i64_and15 (n : Int) : ∃ m : Nat, m ≤ 15 ∧ bits .and .i64 n 15 = (m : Int) := by
  have h1 : (BitVec.ofInt 64 15).toNat = 2 ^ 4 - 1 := by decide
  have key : (BitVec.ofInt 64 n &&& BitVec.ofInt 64 15).toNat = (n % ((2 ^ 64 : Nat) : Int)).toNat % 2 ^ 4 := by
    rw [BitVec.toNat_and, BitVec.toNat_ofInt, h1, Nat.and_two_pow_sub_one_eq_mod]
  refine ⟨(n % ((2 ^ 64 : Nat) : Int)).toNat % 2 ^ 4, by omega, ?_⟩
  show IntKind.i64.wrap ((BitVec.ofInt 64 n &&& BitVec.ofInt 64 15).toNat : Nat) = _
  rw [key, IntKind.wrap_i64]
  omega
set_option maxHeartbeats 16000000 in
theorem undo_law {W : World} {Sp : World → List Nat → Nat → List Int → Prop} (P : P13 W Sp) (pages : Int) (hp : okInt pages) (oa : Option Addr) (on oc : Nat) (os : List Op3) (hi : InT W oa os) (hall : ∀ o ∈ os, o.ok) (hn : os.length = on) (hsm : on ≤ 140737488355328) (n : Int) (hnn : okInt n) :
    Calls Try.prog 7 #[.int .i64 pages, .slice oa on oc, .int .i64 n] W fun e w' => e = .returned (.bool true) ∧ Below W.heap.size W w' := by
  have HP := Lib.hid P
  have HI := Lib.hid (And.intro hi (And.intro hall hn))
  clear P hi hall hn
  go_enter Try.func7, Try.ntmps7
  go_wp2_with fail
  refine (awake13_any HP.out W (Below.refl _ _)).mono ?_
  rintro e w1 ⟨rfl, b1⟩
  have B1 := Lib.hid b1
  clear b1
  go_wp2_with fail
  refine (new_at HP.out B1.out B1.out pages none 0 0 [] hp (InI.nil _ _) rfl (Nat.le_refl _) (by decide) (by omega) (fun _ => ⟨rfl, rfl⟩) (fun _ h => by cases h)).mono ?_
  rintro e w2 (⟨-, rfl, b2, -⟩ | ⟨M, sa, h1, rfl, S2⟩)
  · have B2 := Lib.hid b2
    clear b2
    go_wp2_with fail
    go_ret
    exact ⟨rfl, B2.out⟩
  have S2 := Lib.hid S2
  clear h1
  go_wp2_with fail
  go_loopw [10] (fun i wr => ∃ (k : Nat), k ≤ on ∧ k ≤ 100 ∧ i = .int .i64 (k : Int) ∧ Hid (∃ L : List Int, SpAt Sp W W wr sa L)) (fun i _ => 100 - (intOf i).toNat)
  case atStart => exact ⟨0, Nat.zero_le _, by omega, rfl, Lib.hid ⟨M, S2.out⟩⟩
  case round =>
    obtain ⟨k, hk1, hk2, rfl, HK⟩ := hrel
    obtain ⟨L, hS⟩ := HK.out
    have HS := Lib.hid hS
    by_cases hlt : k < on ∧ k < 100
    · obtain ⟨q1, q2⟩ := hlt
      obtain ⟨bo, oo, x, rfl, hx, c0, c1, c2⟩ := HI.out.1.one (hS.top) (j := k) (by rw [HI.out.2.2]; exact q1)
      have hok := HI.out.2.1 x (List.mem_of_getElem? hx)
      clear hS c0
      by_cases ha : x.act = 0
      · rw [ha] at c1
        go_wp2_with fail
        refine (HS.out.take HP.out (Nat.le_refl _)).mono ?_
        rintro e w4 ⟨rfl, S4⟩
        have S4 : Hid (∃ L : List Int, SpAt Sp W W w4 sa L) := Lib.hid ⟨_, S4⟩
        go_wp2_with fail
        go_roundw
        case rel => exact ⟨k + 1, by omega, by omega, by go_num, S4⟩
        case measure => simp [intOf]; omega
      · by_cases ha1 : x.act = 1
        · rw [ha1] at c1
          go_wp2_with fail
          refine (HS.out.drop HP.out (Nat.le_refl _) x.n hok.n).mono ?_
          rintro e w4 ⟨rfl, S4⟩
          have S4 : Hid (∃ L : List Int, SpAt Sp W W w4 sa L) := Lib.hid ⟨_, S4⟩
          go_wp2_with fail
          go_roundw
          case rel => exact ⟨k + 1, by omega, by omega, by go_num, S4⟩
          case measure => simp [intOf]; omega
        · by_cases ha2 : x.act = 2
          · rw [ha2] at c1
            go_wp2_with fail
            refine (HS.out.back HP.out (Nat.le_refl _) x.n hok.n).mono ?_
            rintro e w4 ⟨rfl, S4⟩
            have S4 : Hid (∃ L : List Int, SpAt Sp W W w4 sa L) := Lib.hid ⟨_, S4⟩
            go_wp2_with fail
            go_roundw
            case rel => exact ⟨k + 1, by omega, by omega, by go_num, S4⟩
            case measure => simp [intOf]; omega
          · by_cases ha3 : x.act = 3
            · rw [ha3] at c1
              go_wp2_with fail
              refine (HS.out.turn HP.out (Nat.le_refl _)).mono ?_
              rintro e w4 ⟨rfl, S4⟩
              have S4 : Hid (∃ L : List Int, SpAt Sp W W w4 sa L) := Lib.hid ⟨_, S4⟩
              go_wp2_with fail
              go_roundw
              case rel => exact ⟨k + 1, by omega, by omega, by go_num, S4⟩
              case measure => simp [intOf]; omega
            · go_wp2_with fail
              go_roundw
              case rel => exact ⟨k + 1, by omega, by omega, by go_num, HK⟩
              case measure => simp [intOf]; omega
    · clear hS HK
      go_wp2_with fail
      all_goals
        generalize hw0 : wr = wr0 at *
        refine (HS.out.off.used HP.out (Nat.le_refl _)).mono ?_
        rintro e w5 ⟨v1, v2, rfl, S5, -, o1, o2, hoff⟩
        have S5 := Lib.hid S5
        have R5 := Lib.hid (And.intro o1 o2)
        clear o1 o2 hoff
        go_wp2_with fail
        refine (S5.out.step (Nat.le_refl _) (fun F hF => HP.out.free F sa L _ S5.out.top hF)).mono ?_
        rintro e w6 ⟨rfl, S6, st⟩
        have HU : Hid (Und Sp W w6 wr0.heap.size w6.heap.size sa L v1 v2 (.slice none 0 0) [] L) := Lib.hid ⟨R5.out.1.stay st (fun g hg => by simp [hg]), R5.out.2.stay st (fun g hg => by simp [hg]), OwnI.nil _ _, S6.fewer (fun k hk => by simpa [Value.ownBlock] using hk), ⟨fun g hg => S6.lt g (by simp [hg]), fun g hg => S6.lt g (by simp [hg])⟩, S6.low.size, Nat.le_refl _⟩
        clear S5 R5 S6 st
        have hL := SpAt.any HP.out HS.out
        go_wp2_with fail
        obtain ⟨m, hm, hbit⟩ := i64_and15 n
        have HW0 := Lib.hid (And.intro (Took.start L) (show Seq L [] L from rfl))
        go_loopw [14, 15] (fun tk i wr => ∃ (k : Nat) (T : List Nat) (L1 : List Int), k ≤ m ∧ i = .int .i64 (k : Int) ∧ T.length ≤ k ∧ Hid (Took L T 0 L1 ∧ Seq L T L1) ∧ Hid (Und Sp W wr wr0.heap.size w6.heap.size sa L v1 v2 tk T L1)) (fun _ i _ => m - (intOf i).toNat)
        case atStart => exact ⟨0, [], L, Nat.zero_le _, rfl, Nat.le_refl _, HW0, HU⟩
        case round =>
          obtain ⟨j, T, L1, hj, rfl, hT, HT, HK⟩ := hrel
          by_cases hlt : j < m
          · go_wp2_with fail
            refine (HK.out.step (fun F hF => HP.out.take F sa L1 _ HK.out.sp.top hF)).mono ?_
            rintro e w7 ⟨rfl, S7⟩
            rcases take_or L1 with ⟨e1, e2⟩ | ⟨t, e1, e2, e3⟩
            · rw [e2] at S7
              have S7 := Lib.hid S7
              rw [e1]
              go_wp2_with fail
              go_roundw
              case rel => exact ⟨j + 1, T, L1, by omega, by go_num, by omega, HT, S7⟩
              case measure => simp [intOf]; omega
            · have S7 := Lib.hid S7
              have HT2 := Lib.hid (And.intro (HT.out.1.take e1) (HT.out.2.snoc e1))
              rw [e2, e3]
              go_wp2_with (first
                | (at_builtin; refine apIL _ rfl (.tmp 105) (.tmp 107) rfl w6.heap.size _ _ rfl S7.out.tk [(t : Int)] _ 1 1 rfl rfl rfl rfl (by rw [natI_len]; omega) S7.out.base.2 ?_; intro vt' w8 hg; have U8 := Lib.hid (S7.out.put HP.out hg); clear hg))
              go_roundw
              case rel => exact ⟨j + 1, T ++ [t], _, by omega, by go_num, by simp; omega, HT2, U8⟩
              case measure => simp [intOf]; omega
          · have hjm : j = m := by omega
            subst hjm
            obtain ⟨ta, tc, rfl⟩ := HK.out.form
            have HZ := Lib.hid (fun t (ht : t ∈ T) => (by have := lt_of_get (HT.out.1.zero t ht); unfold okInt; omega : okInt (t : Int)))
            clear hlt hj HU HW0
            go_wp2_with fail
            go_loopw [18] (fun i wr => ∃ (r : Nat) (L2 : List Int), r ≤ T.length ∧ i = .int .i64 (r : Int) ∧ Hid (Took L T r L2) ∧ Hid (Und Sp W wr wr0.heap.size w6.heap.size sa L v1 v2 (.slice ta T.length tc) T L2)) (fun i _ => T.length - (intOf i).toNat)
            case atStart => exact ⟨0, L1, Nat.zero_le _, rfl, Lib.hid HT.out.1, HK⟩
            case round =>
              obtain ⟨r, L2, hr, rfl, HA, HB⟩ := hrel
              by_cases hlt : r < T.length
              · obtain ⟨t, ht⟩ : ∃ t, T[r]? = some t := ⟨_, List.getElem?_eq_getElem hlt⟩
                obtain ⟨b, o, rfl, hc⟩ := HB.out.cell ht
                obtain ⟨e1, hnext⟩ := HA.out.back ht
                have HA2 := Lib.hid hnext
                have hok := HZ.out t (List.mem_of_getElem? ht)
                clear hnext
                go_wp2_with fail
                refine (HB.out.step (fun F hF => HP.out.back F sa L2 t _ HB.out.sp.top hF hok)).mono ?_
                rintro e w8 ⟨rfl, S8⟩
                have S8 := Lib.hid S8
                rw [e1]
                go_wp2_with fail
                go_roundw
                case rel => exact ⟨r + 1, _, by omega, by go_num, HA2, S8⟩
                case measure => simp [intOf]; omega
              · have hrm : r = T.length := by omega
                subst hrm
                have hdone := HA.out.done
                subst hdone
                clear HA HK
                go_wp2_with fail
                refine (HB.out.sp.used HP.out (Nat.le_refl _)).mono ?_
                rintro e w8 ⟨v3, v4, rfl, S8, st, o3, o4, -, hsz⟩
                have U8 : Hid (Und Sp W w8 wr0.heap.size w6.heap.size sa L2 v1 v2 (.slice ta T.length tc) T L2) := Lib.hid ⟨HB.out.one.stay st fun g hg => by simp [hg], HB.out.two.stay st fun g hg => by simp [hg], HB.out.tk.stay st fun g hg => by simp [hg], S8.fewer (fun k hk => List.mem_append.2 (.inl (List.mem_append.2 (.inl hk)))), HB.out.low, HB.out.base.1, Nat.le_trans HB.out.base.2 hsz⟩
                have n1 : (areL L2 1).length ≤ 17592186044416 := by have h5 := areL_len 1 L2; have h6 := many_le 1 L2; omega
                have n2 : (areL L2 2).length ≤ 17592186044416 := by have h5 := areL_len 2 L2; have h6 := many_le 2 L2; omega
                obtain ⟨a1, c1, rfl, i1, -⟩ := U8.out.one.shape
                obtain ⟨a2, c2, rfl, i2, -⟩ := U8.out.two.shape
                obtain ⟨a3, c3, rfl, i3, -⟩ := o3.shape
                obtain ⟨a4, c4, rfl, i4, -⟩ := o4.shape
                have HS1 := Lib.hid (same_any a1 a3 _ c1 c3 _ w8 i1 i3 rfl n1)
                have I2 := Lib.hid (And.intro i2 i4)
                clear S8 st o3 o4 hsz HB i1 i2 i3 i4
                go_wp2_with fail
                refine HS1.out.mono ?_
                rintro e w9 ⟨rfl, b9⟩
                have U9 := Lib.hid (U8.out.then_ HP.out b9)
                have HS2 := Lib.hid (same_any a2 a4 _ c2 c4 _ w9 (I2.out.1.then_ b9) (I2.out.2.then_ b9) rfl n2)
                clear b9 U8 I2 HS1
                go_wp2_with fail
                refine HS2.out.mono ?_
                rintro e w10 ⟨rfl, b10⟩
                have U10 := Lib.hid (U9.out.then_ HP.out b10)
                clear b10 U9 HS2
                go_wp2_with fail
                refine (U10.out.step (fun F hF => HP.out.free F sa L2 _ U10.out.sp.top hF)).mono ?_
                rintro e w11 ⟨rfl, U11⟩
                have U11 := Lib.hid U11
                clear U10
                go_wp2_with fail
                go_loopw [24] (fun i wr => ∃ (r : Nat) (L3 : List Int), r ≤ T.length ∧ i = .int .i64 (r : Int) ∧ Hid (Seq L3 (T.drop r) L1) ∧ Hid (Und Sp W wr wr0.heap.size w6.heap.size sa L2 (.slice a1 (areL L2 1).length c1) (.slice a2 (areL L2 2).length c2) (.slice ta T.length tc) T L3)) (fun i _ => T.length - (intOf i).toNat)
                case atStart => exact ⟨0, L2, Nat.zero_le _, rfl, Lib.hid HT.out.2, U11⟩
                case round =>
                  obtain ⟨r, L3, hr, rfl, HA, HB⟩ := hrel
                  by_cases hlt : r < T.length
                  · obtain ⟨t, ht⟩ : ∃ t, T[r]? = some t := ⟨_, List.getElem?_eq_getElem hlt⟩
                    obtain ⟨e1, e2, hnext⟩ := HA.out.at_ ht
                    have HA2 := Lib.hid hnext
                    clear hnext
                    go_wp2_with fail
                    refine (HB.out.step (fun F hF => HP.out.take F sa L3 _ HB.out.sp.top hF)).mono ?_
                    rintro e w12 ⟨rfl, S12⟩
                    have S12 := Lib.hid S12
                    rw [e1, e2]
                    obtain ⟨b, o, rfl, hc⟩ := S12.out.cell ht
                    go_wp2_with fail
                    go_roundw
                    case rel => exact ⟨r + 1, _, by omega, by go_num, HA2, S12⟩
                    case measure => simp [intOf]; omega
                  · go_wp2_with fail
                    go_ret
                    exact ⟨rfl, HB.out.sp.low⟩
end Go.Proofs.Yteoekfmjlmpmgaa
