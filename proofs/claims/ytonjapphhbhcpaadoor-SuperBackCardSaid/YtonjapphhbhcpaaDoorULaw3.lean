/- The law SuperBack over the contracts. No statement is proved here. -/
import Derived.Test.YtonjapphhbhcpaaDoorULaw1
namespace Go.Proofs.YtonjapphhbhcpaaDoor
open Go.RowKit
set_option maxRecDepth 100000

theorem i64_and1m (n : Int) : bits .and .i64 n 1 = n % 2 := by
  have h1 : (BitVec.ofInt 64 1).toNat = 2 ^ 1 - 1 := by decide
  have key : (BitVec.ofInt 64 n &&& BitVec.ofInt 64 1).toNat = (n % ((2 ^ 64 : Nat) : Int)).toNat % 2 ^ 1 := by
    rw [BitVec.toNat_and, BitVec.toNat_ofInt, h1, Nat.and_two_pow_sub_one_eq_mod]
  show IntKind.i64.wrap ((BitVec.ofInt 64 n &&& BitVec.ofInt 64 1).toNat : Nat) = _
  rw [key, IntKind.wrap_i64]
  have p64 : ((2 ^ 64 : Nat) : Int) = 18446744073709551616 := by decide
  rw [p64]
  omega
theorem Sup.In.of_ok {s : Sup} (h : s.ok = true) : s.In := by
  have := Sup.ok_yes h
  constructor <;> unfold okInt <;> omega
set_option maxHeartbeats 16000000 in
theorem sback_law {W : World} (P : P14 W) (s : Sup) (hs : s.In) (a : Option Addr) (c n : Nat) (l : List Int) (ha : InB W a l) (hB : isB l) (hn : l.length = n) (hc : n ≤ c ∧ c ≤ 140737488351232) (h0 : a = none → c = 0) :
    Calls Tryd.prog 6 #[s.arg, .slice a n c] W fun e w' => e = .returned (.bool true) ∧ Below W.heap.size W w' := by
  have HP := Lib.hid (And.intro P (And.intro hs (And.intro ha (And.intro hB (And.intro hn (fun e => ⟨h0 e, List.eq_nil_of_length_eq_zero (by have := h0 e; omega)⟩ : a = none → c = 0 ∧ l = []))))))
  obtain ⟨hc1, hc2⟩ := hc
  clear P hs ha hB hn h0
  have HB0 := Lib.hid (below1 W (.cells #[.int .i64 s.ver, .int .i64 s.root, .int .i64 s.ep, .int .i64 s.pag] 23))
  have HX0 := Lib.hid (heap_alloc_new W (.cells #[.int .i64 s.ver, .int .i64 s.root, .int .i64 s.ep, .int .i64 s.pag] 23))
  show Calls _ _ #[.agg #[.int .i64 s.ver, .int .i64 s.root, .int .i64 s.ep, .int .i64 s.pag], _] _ _
  go_enter Tryd.func6, Tryd.ntmps6
  go_wp2_with fail
  refine (awake14_any HP.out.1 _ HB0.out).mono ?_
  rintro e w1 ⟨rfl, b1⟩
  have B1 := Lib.hid (below_then HB0.out b1)
  have X1 := Lib.hid (row_then HX0.out b1)
  clear b1
  go_wp2_with fail
  go_loopw [6] (fun i wr => ∃ k : Nat, k ≤ 2 ∧ i = .int .i64 (k : Int) ∧ Hid (Below w1.heap.size w1 wr)) (fun i _ => 2 - (intOf i).toNat)
  case atStart => exact ⟨0, by omega, rfl, Lib.hid (Below.refl _ _)⟩
  case round =>
    obtain ⟨k, hk, rfl, HR⟩ := hrel
    have BR := Lib.hid (below_then B1.out HR.out)
    by_cases hlt : k < 2
    · have HO := Lib.hid (HP.out.1.opens (k : Int) a n c l wr BR.out (by unfold okInt; omega) (HP.out.2.2.1.then_ BR.out) HP.out.2.2.2.1 HP.out.2.2.2.2.1 hc1 (Nat.le_trans hc2 (by decide)) (by omega) HP.out.2.2.2.2.2)
      go_wp2_with fail
      refine HO.out.mono ?_
      rintro e w2 ⟨rfl, b2⟩
      obtain ⟨T, hT⟩ : ∃ T, sopS l (k : Int) = T := ⟨_, rfl⟩
      rw [hT]
      have b22 := below_then b2 (below1 w2 (.cells #[.int .i64 T.ver, .int .i64 T.root, .int .i64 T.ep, .int .i64 T.pag] 23))
      have R2 := Lib.hid (below_then HR.out b22)
      have BR2 := Lib.hid (below_then B1.out R2.out)
      have XT := heap_alloc_new w2 (.cells #[.int .i64 T.ver, .int .i64 T.root, .int .i64 T.ep, .int .i64 T.pag] 23)
      obtain ⟨t0, t1, t2, t3⟩ := box4_cells XT
      have XTH := Lib.hid XT
      unfold Sup.arg Sup.cells
      clear b2 b22 XT
      by_cases he : sopE l (k : Int) = 0
      · rw [he]
        obtain ⟨q0, q1, q2, q3, q4, q5, q6⟩ := sop_at he
        have hmk := made_sop HP.out.2.2.2.1 he
        rw [hT] at q4 q5 hmk
        have HMK := Lib.hid hmk
        have hE : T.makeE = 0 := by unfold Sup.makeE; rw [q4]; rfl
        have hand : bits .and .i64 T.ver 1 = (k : Int) := by rw [i64_and1m]; exact q5
        have HM := Lib.hid (HP.out.1.make T _ BR2.out (Sup.In.of_ok q4))
        unfold SMakeTo at HM
        rw [hE, hmk] at HM
        unfold Sup.arg Sup.cells at HM
        clear q0 q1 q2 q3 q4 q5 q6 hmk hT he hE HO
        go_wp2_with fail
        refine HM.out.mono ?_
        rintro e w3 ⟨v3, rfl, o3, b3⟩
        have R3 := Lib.hid (below_then R2.out b3)
        have BR3 := Lib.hid (below_then B1.out R3.out)
        obtain ⟨d0, d1, d2, d3⟩ := box4_cells (row_then XTH.out b3)
        obtain ⟨a3, q3, e3, i3, -⟩ := o3.shape
        rw [HP.out.2.2.2.2.1] at e3
        subst e3
        have s1 := run_str _ a3 _ q3 _ HP.out.2.2.2.2.1 i3 o3.isNil
        have s2 := run_str _ a _ c _ HP.out.2.2.2.2.1 (HP.out.2.2.1.then_ BR3.out) (fun e => (HP.out.2.2.2.2.2 e).2)
        clear t0 t1 t2 t3 o3 b3 i3
        go_wp2_with fail
        go_roundw
        case rel => exact ⟨k + 1, by omega, by go_num, R3⟩
        case measure => simp [intOf]; omega
      · have heb : (sopE l (k : Int) != 0) = true := by simp [he]
        clear he hT HO t0 t1 t2 t3
        generalize sopE l (k : Int) = te at *
        go_wp2_with fail
        go_roundw
        case rel => exact ⟨k + 1, by omega, by go_num, R2⟩
        case measure => simp [intOf]; omega
    · have hk2 : k = 2 := by omega
      subst hk2
      obtain ⟨c0, c1, c2, c3⟩ := box4_cells (row_then X1.out HR.out)
      have HM := Lib.hid (HP.out.1.make s wr BR.out HP.out.2.1)
      unfold SMakeTo Sup.arg Sup.cells at HM
      cases hok : s.ok with
      | false =>
        have hE : s.makeE = 1 := by unfold Sup.makeE; rw [hok]; rfl
        have hM : s.make = [] := by unfold Sup.make; rw [hok]; rfl
        rw [hE, hM] at HM
        clear hok hE hM
        go_wp2_with fail
        refine HM.out.mono ?_
        rintro e w3 ⟨v3, rfl, o3, b3⟩
        have BR3 := Lib.hid (below_then BR.out b3)
        obtain ⟨a3, q3, e3, i3, -⟩ := o3.shape
        have e3 : v3 = .slice a3 0 q3 := e3
        subst e3
        clear c0 c1 c2 c3 o3 b3 i3
        go_wp2_with fail
        go_ret
        exact ⟨by simp, BR3.out⟩
      | true =>
        have hE : s.makeE = 0 := by unfold Sup.makeE; rw [hok]; rfl
        obtain ⟨p, hp2, hp⟩ := Sup.page hok
        have hso := sop_made hok (s.ver % 2)
        rw [if_neg (by omega), if_pos rfl, hp] at hso
        have hand : bits .and .i64 s.ver 1 = (p : Int) := by rw [i64_and1m]; exact hp
        have HSO := Lib.hid hso
        have HLN := Lib.hid (Sup.make_len hok)
        rw [hE] at HM
        clear hok hE hp hso
        go_wp2_with fail
        refine HM.out.mono ?_
        rintro e w3 ⟨v3, rfl, o3, b3⟩
        have BR3 := Lib.hid (below_then BR.out b3)
        have XS3 := Lib.hid (row_then X1.out (below_then HR.out b3))
        obtain ⟨d0, d1, d2, d3⟩ := box4_cells XS3.out
        obtain ⟨g3, q3, rfl, hq3⟩ := o3.form (by rw [HLN.out]; omega)
        rw [HLN.out] at hq3 ⊢
        have hcm : q3 ≤ maxLen := by obtain ⟨a2, c2, e2, -, -, -, h2⟩ := o3.shape; injection e2 with _ _ e3; subst e3; exact h2
        have HO := Lib.hid (HP.out.1.opens (p : Int) _ 4096 q3 s.make w3 BR3.out (by unfold okInt; omega) o3.inB s.make_byte HLN.out hq3 hcm (by omega) (fun e => by cases e))
        unfold SOpenTo at HO
        rw [HSO.out.1, HSO.out.2] at HO
        unfold Sup.arg Sup.cells at HO
        clear c0 c1 c2 c3 o3 b3
        go_wp2_with fail
        refine HO.out.mono ?_
        rintro e w4 ⟨rfl, b4⟩
        have b44 := below_then b4 (below1 w4 (.cells #[.int .i64 s.ver, .int .i64 s.root, .int .i64 s.ep, .int .i64 s.pag] 23))
        have BR4 := Lib.hid (below_then BR3.out b44)
        obtain ⟨t0, t1, t2, t3⟩ := box4_cells (row_then XS3.out b44)
        obtain ⟨u0, u1, u2, u3⟩ := box4_cells (heap_alloc_new w4 (.cells #[.int .i64 s.ver, .int .i64 s.root, .int .i64 s.ep, .int .i64 s.pag] 23))
        have hne := fun W => sup_eql s.ver s.root s.ep s.pag s.ver s.root s.ep s.pag W
        have hge := fun op x y a b W => sup_eqg op x y a b W
        simp only [and_self, decide_true] at hne
        clear d0 d1 d2 d3 b4 b44
        go_wp2_with fail
        go_ret
        exact ⟨by simp, BR4.out⟩
end Go.Proofs.YtonjapphhbhcpaaDoor
