/- The law SumAffine over the contracts. No statement is proved here. -/
import Derived.Test.YtocpbkmflihcnaaDoorSLaw3
namespace Go.Proofs.YtocpbkmflihcnaaDoor
open Go.RowKit
set_option maxRecDepth 100000

def X3 : List Int → List Int → List Int → List Int
  | x :: a, y :: b, z :: c => ((x.toNat ^^^ y.toNat ^^^ z.toNat : Nat) : Int) :: X3 a b c
  | _, _, _ => []
theorem X3_nat (a : List Int) : ∀ (b c : List Int), natL (X3 a b c) = xorL (xorL (natL a) (natL b)) (natL c) := by
  induction a with
  | nil => intro b c; simp [X3, natL, xorL]
  | cons x a ih =>
    intro b c
    cases b with
    | nil => simp [X3, natL, xorL]
    | cons y b => cases c with
      | nil => simp [X3, natL, xorL]
      | cons z c =>
        have h := ih b c
        simp only [natL] at h
        simp [X3, natL, xorL, h]
theorem X3_get (a : List Int) : ∀ (b c : List Int) (k : Nat) (x y z : Int), a[k]? = some x → b[k]? = some y → c[k]? = some z → (X3 a b c)[k]? = some ((x.toNat ^^^ y.toNat ^^^ z.toNat : Nat) : Int) := by
  induction a with
  | nil => intro b c k x y z h; simp at h
  | cons p a ih =>
    intro b c k x y z hx hy hz
    cases b with
    | nil => simp at hy
    | cons q b => cases c with
      | nil => simp at hz
      | cons r c => cases k with
        | zero => simp at hx hy hz; subst hx hy hz; rfl
        | succ k => simp at hx hy hz; rw [X3, List.getElem?_cons_succ]; exact ih b c k x y z hx hy hz
theorem X3_len (a : List Int) : ∀ (b c : List Int), a.length = b.length → b.length = c.length → (X3 a b c).length = a.length := by
  induction a with
  | nil => intro b c _ _; rfl
  | cons x a ih =>
    intro b c h1 h2
    cases b with
    | nil => cases h1
    | cons y b => cases c with
      | nil => cases h2
      | cons z c => simp [X3]; exact ih b c (by simpa using h1) (by simpa using h2)
theorem X3_byte (a : List Int) : ∀ (b c : List Int), isB a → isB b → isB c → isB (X3 a b c) := by
  induction a with
  | nil => intro b c _ _ _; exact isB.nil
  | cons x a ih =>
    intro b c h1 h2 h3
    cases b with
    | nil => exact isB.nil
    | cons y b => cases c with
      | nil => exact isB.nil
      | cons z c =>
        have e1 := h1 x (by simp)
        have e2 := h2 y (by simp)
        have e3 := h3 z (by simp)
        have := Nat.xor_lt_two_pow (n := 8) (Nat.xor_lt_two_pow (n := 8) (show x.toNat < 2 ^ 8 by omega) (show y.toNat < 2 ^ 8 by omega)) (show z.toNat < 2 ^ 8 by omega)
        exact isB.cons (by omega) (ih b c (fun q hq => h1 q (by simp [hq])) (fun q hq => h2 q (by simp [hq])) (fun q hq => h3 q (by simp [hq])))
theorem byte3 {x y z : Int} (h1 : 0 ≤ x ∧ x ≤ 255) (h2 : 0 ≤ y ∧ y ≤ 255) (h3 : 0 ≤ z ∧ z ≤ 255) : bits .xor .u8 (bits .xor .u8 x y) z = ((x.toNat ^^^ y.toNat ^^^ z.toNat : Nat) : Int) := by
  have e := u8_xor x y (by omega) (by omega) (by omega) (by omega)
  have hl := Nat.xor_lt_two_pow (n := 8) (show x.toNat < 2 ^ 8 by omega) (show y.toNat < 2 ^ 8 by omega)
  rw [e, u8_xor _ z (by omega) (by omega) (by omega) (by omega), Int.toNat_natCast]
theorem ofInt_i64' (a : Nat) (ha : a < 9223372036854775808) : (BitVec.ofInt 64 (a : Int)).toNat = a := by
  rw [BitVec.ofInt_natCast, BitVec.toNat_ofNat]; exact Nat.mod_eq_of_lt (by omega)
theorem i64_xor (a b : Nat) (ha : a < 4294967296) (hb : b < 4294967296) : bits .xor .i64 (a : Int) (b : Int) = ((a ^^^ b : Nat) : Int) := by
  have hx : a ^^^ b < 2 ^ 32 := Nat.xor_lt_two_pow (by omega) (by omega)
  show IntKind.i64.wrap ((BitVec.ofInt 64 (a : Int) ^^^ BitVec.ofInt 64 (b : Int)).toNat : Int) = _
  rw [BitVec.toNat_xor, ofInt_i64' a (by omega), ofInt_i64' b (by omega), IntKind.wrap_i64]
  omega
theorem affine_is {a b c : List Int} (h1 : a.length = b.length) (h2 : b.length = c.length) (ha : isB a) (hb : isB b) (hc : isB c) :
    bits .xor .i64 (bits .xor .i64 (moreP 0 a) (moreP 0 b)) (moreP 0 c) = moreP 0 (X3 a b c) := by
  have la := moreN_lt (s := 0) (natL a) (by omega) (natL_byte ha)
  have lb := moreN_lt (s := 0) (natL b) (by omega) (natL_byte hb)
  have lc := moreN_lt (s := 0) (natL c) (by omega) (natL_byte hc)
  have e := moreN_affine (natL a) (natL b) (natL c) (by rw [natL_len, natL_len, h1]) (by rw [natL_len, natL_len, h2])
  rw [moreP_is, moreP_is, moreP_is, moreP_is, X3_nat, e, i64_xor _ _ la lb, i64_xor _ _ (Nat.xor_lt_two_pow (n := 32) la lb) lc]
theorem InB.takeS {w : World} {a : Option Addr} {l : List Int} (h : InB w a l) (k : Nat) : InB w a (l.take k) := fun i x hx => by
  have hi := lt_of_get hx
  rw [List.length_take] at hi
  rw [List.getElem?_take_of_lt (by omega)] at hx
  exact h i x hx
theorem stLd {ops : Array Oper} {o : Oper} {a : Act} {w : World} {K : Act → World → Prop} {Q : Exit → Act → World → Prop} {E : Prop} (cs : Array Value) (hgd : o.guard = none) (s x : Operand)
    (ho : o.op = .call { callee := .builtin .append, args := #[s, x], argTypes := #[22, 22] }) (B : Nat) (v : Value) (l : List Int) (hs : a.eval s = v) (hown : OwnB w B v l)
    (bs : List Int) (g n c : Nat) (hx : a.eval x = .slice (some ⟨g, 0, none⟩) n c) (hg : g = w.heap.size) (hc : cs = (btV bs).toArray) (hn : bs.length = n) (hl : l.length + n ≤ 140737488355328) (hB : B ≤ w.heap.size)
    (h : ∀ v' w', Grew B w.drew w' v v' (l ++ bs) → K (a.put o.dst v') w') : if Region.wanted o (yielded ops a.tmps) = true then Oper.wp Tryd.prog o a ((w.alloc (.cells cs 5)).drew) K Q else E :=
  stL (w := w.drew) cs hgd s x ho B v l hs hown.drew bs g n c hx hg hc hn hl hB h
set_option maxHeartbeats 8000000 in
theorem affine_law {W : World} (P : P11 W) (a : Option Addr) (ca na : Nat) (la : List Int) (b : Option Addr) (cb nb : Nat) (lb : List Int) (c : Option Addr) (cc nc : Nat) (lc : List Int)
    (ha : InB W a la) (hb : InB W b lb) (hc : InB W c lc) (hBa : isB la) (hBb : isB lb) (hBc : isB lc) (hna : la.length = na) (hnb : lb.length = nb) (hnc : lc.length = nc)
    (h0a : na ≤ ca ∧ ca ≤ 140737488351232) (h0b : nb ≤ cb ∧ cb ≤ 140737488351232) (h0c : nc ≤ cc ∧ cc ≤ 140737488351232) :
    Calls Tryd.prog 9 #[.slice a na ca, .slice b nb cb, .slice c nc cc] W fun e w' => e = .returned (.bool true) ∧ Below W.heap.size W w' := by
  have HP := Lib.hid (And.intro P (And.intro (And.intro ha (And.intro hb hc)) (And.intro (And.intro hBa (And.intro hBb hBc)) (And.intro hna (And.intro hnb hnc)))))
  obtain ⟨a1, a2⟩ := h0a
  obtain ⟨b1, b2⟩ := h0b
  obtain ⟨c1, c2⟩ := h0c
  clear P ha hb hc hBa hBb hBc hna hnb hnc
  go_enter Tryd.func9, Tryd.ntmps9
  go_wp2_with fail
  refine (awake11_any HP.out.1 W (Below.refl _ _)).mono ?_
  rintro e w1 ⟨rfl, b1⟩
  have B1 := Lib.hid b1
  have hz1 := b1.size
  clear b1
  go_wp2_with fail
  · obtain ⟨n, hn, k1, k2, k3, k4⟩ : ∃ n : Nat, nc = n ∧ n ≤ na ∧ n ≤ nb ∧ n ≤ nc ∧ (na ≤ n ∨ nb ≤ n ∨ nc ≤ n) := ⟨nc, rfl, by omega, by omega, by omega, by omega⟩
    rw [hn]
    clear hn
    have HX : Hid ((la.take n).length = n ∧ (lb.take n).length = n ∧ (lc.take n).length = n ∧ isB (la.take n) ∧ isB (lb.take n) ∧ isB (lc.take n)) := Lib.hid
      ⟨by rw [List.length_take, HP.out.2.2.2.1]; omega, by rw [List.length_take, HP.out.2.2.2.2.1]; omega, by rw [List.length_take, HP.out.2.2.2.2.2]; omega, HP.out.2.2.1.1.take' n, HP.out.2.2.1.2.1.take' n, HP.out.2.2.1.2.2.take' n⟩
    have HL : Hid ((X3 (la.take n) (lb.take n) (lc.take n)).length = n) := Lib.hid (by rw [X3_len _ _ _ (by rw [HX.out.1, HX.out.2.1]) (by rw [HX.out.2.1, HX.out.2.2.1]), HX.out.1])
    go_loopw [9, 10] (fun v i wr => ∃ k : Nat, k ≤ n ∧ i = .int .i64 (k : Int) ∧ Hid (OwnB wr w1.heap.size v ((X3 (la.take n) (lb.take n) (lc.take n)).take k) ∧ Below W.heap.size W wr ∧ Below w1.heap.size w1 wr)) (fun _ i _ => n - (intOf i).toNat)
    case atStart => exact ⟨0, by omega, rfl, OwnB.nil _ _, B1.out, Below.refl _ _⟩
    case round =>
      obtain ⟨k, hk, rfl, HK⟩ := hrel
      by_cases hlt : k < n
      · have hz := HK.2.2.size
        obtain ⟨ba, oa, x, rfl, hx, x0⟩ := (HP.out.2.1.1.then_ HK.2.1).one (i := k) (by rw [HP.out.2.2.2.1]; omega)
        obtain ⟨bb, ob, y, rfl, hy, y0⟩ := (HP.out.2.1.2.1.then_ HK.2.1).one (i := k) (by rw [HP.out.2.2.2.2.1]; omega)
        obtain ⟨bc, oc, z, rfl, hz', z0⟩ := (HP.out.2.1.2.2.then_ HK.2.1).one (i := k) (by rw [HP.out.2.2.2.2.2]; omega)
        have lowA := Nat.lt_of_lt_of_le (HP.out.2.1.1.lowB ba oa rfl (by rw [HP.out.2.2.2.1]; omega)) hz1
        have lowB := Nat.lt_of_lt_of_le (HP.out.2.1.2.1.lowB bb ob rfl (by rw [HP.out.2.2.2.2.1]; omega)) hz1
        have lowC := Nat.lt_of_lt_of_le (HP.out.2.1.2.2.lowB bc oc rfl (by rw [HP.out.2.2.2.2.2]; omega)) hz1
        have hxb := HP.out.2.2.1.1.at' hx
        have hyb := HP.out.2.2.1.2.1.at' hy
        have hzb := HP.out.2.2.1.2.2.at' hz'
        have HG := Lib.hid (X3_get (la.take n) (lb.take n) (lc.take n) k x y z (by rw [List.getElem?_take_of_lt hlt]; exact hx) (by rw [List.getElem?_take_of_lt hlt]; exact hy) (by rw [List.getElem?_take_of_lt hlt]; exact hz'))
        have HB3 := Lib.hid (byte3 hxb hyb hzb)
        have HTL : Hid (((X3 (la.take n) (lb.take n) (lc.take n)).take k).length = k) := Lib.hid (by rw [List.length_take, HL.out]; omega)
        clear hx hy hz' hxb hyb hzb k4
        have i0 : (0 : Int) ≤ (k : Int) := by omega
        have i1 : (k : Int) < (na : Int) := by omega
        have i2 : (k : Int) < (nb : Int) := by omega
        have i3 : (k : Int) < (nc : Int) := by omega
        have j1 : k < na := by omega
        have j2 : k < nb := by omega
        have j3 : k < nc := by omega
        have HBl : Hid (ba < w1.heap.size ∧ bb < w1.heap.size ∧ bc < w1.heap.size) := Lib.hid ⟨lowA, lowB, lowC⟩
        clear lowA lowB lowC
        go_wp2_with fail
        go_region_held3 (fun w' => w'.cell? ⟨ba, oa + k, none⟩ = some (.int .u8 x) ∧ w'.cell? ⟨bb, ob + k, none⟩ = some (.int .u8 y) ∧ w'.cell? ⟨bc, oc + k, none⟩ = some (.int .u8 z))
          (first | go_keep | exact ⟨e1, e2, e3⟩)
          ((refine stLd _ rfl (.tmp 27) (.tmp 42) rfl w1.heap.size _ _ rfl HK.1 [bits .xor .u8 (bits .xor .u8 x y) z] _ 1 1 rfl rfl rfl rfl (by rw [HTL.out]; omega) hz ?_; intro v' w9 hg; have G1 := Lib.hid hg; clear hg; have far : ∀ q, q < w1.heap.size → w9.heap[q]? = wr.heap[q]? := (G1.out.below HK.1.drew (Below.refl w1.heap.size wr.drew) (Nat.le_refl _) hz).block; have e1 : w9.cell? ⟨ba, oa + k, none⟩ = some (.int .u8 x) := (Eq.trans (World.cell?_of_block (far _ HBl.out.1)) x0); have e2 : w9.cell? ⟨bb, ob + k, none⟩ = some (.int .u8 y) := (Eq.trans (World.cell?_of_block (far _ HBl.out.2.1)) y0); have e3 : w9.cell? ⟨bc, oc + k, none⟩ = some (.int .u8 z) := (Eq.trans (World.cell?_of_block (far _ HBl.out.2.2)) z0)))
        go_wp2_with fail
        go_roundw
        case rel =>
          refine ⟨k + 1, by omega, by go_num, ?_, ?_, ?_⟩
          · have h := G1.out.own
            rw [HB3.out] at h
            rw [take_next HG.out]; exact h
          · exact G1.out.below HK.1.drew HK.2.1.drew hz1 hz
          · exact G1.out.below HK.1.drew HK.2.2.drew (Nat.le_refl _) hz
        case measure => simp [intOf]; omega
      · have hkn : k = n := by omega
        rw [show (X3 (la.take n) (lb.take n) (lc.take n)).take k = X3 (la.take n) (lb.take n) (lc.take n) from List.take_of_length_le (by rw [HL.out]; omega)] at HK
        obtain ⟨av, cv, ev, iv, -⟩ := HK.1.shape
        rw [HL.out] at ev
        subst ev
        have B2 := Lib.hid HK.2.1
        have I2 := Lib.hid iv
        clear HK iv k4 hkn
        go_wp2_with fail
        refine (HP.out.1.sum _ _ n (la.take n) _ B2.out ((HP.out.2.1.1.then_ B2.out).takeS n) HX.out.2.2.2.1 HX.out.1 (by omega)).mono ?_
        rintro e w3 ⟨rfl, b3⟩
        have B3 := Lib.hid (below_then B2.out b3)
        have I3 := Lib.hid (I2.out.then_ b3)
        clear b3
        go_wp2_with fail
        refine (HP.out.1.sum _ _ n (lb.take n) _ B3.out ((HP.out.2.1.2.1.then_ B3.out).takeS n) HX.out.2.2.2.2.1 HX.out.2.1 (by omega)).mono ?_
        rintro e w4 ⟨rfl, b4⟩
        have B4 := Lib.hid (below_then B3.out b4)
        have I4 := Lib.hid (I3.out.then_ b4)
        clear b4
        go_wp2_with fail
        refine (HP.out.1.sum _ _ n (lc.take n) _ B4.out ((HP.out.2.1.2.2.then_ B4.out).takeS n) HX.out.2.2.2.2.2 HX.out.2.2.1 (by omega)).mono ?_
        rintro e w5 ⟨rfl, b5⟩
        have B5 := Lib.hid (below_then B4.out b5)
        have I5 := Lib.hid (I4.out.then_ b5)
        clear b5
        go_wp2_with fail
        refine (HP.out.1.sum _ _ n (X3 (la.take n) (lb.take n) (lc.take n)) _ B5.out I5.out (X3_byte _ _ _ HX.out.2.2.2.1 HX.out.2.2.2.2.1 HX.out.2.2.2.2.2) HL.out (by omega)).mono ?_
        rintro e w6 ⟨rfl, b6⟩
        have B6 := Lib.hid (below_then B5.out b6)
        have HF := Lib.hid (affine_is (by rw [HX.out.1, HX.out.2.1]) (by rw [HX.out.2.1, HX.out.2.2.1]) HX.out.2.2.2.1 HX.out.2.2.2.2.1 HX.out.2.2.2.2.2)
        clear b6
        go_wp2_with fail
        rw [HF.out]
        go_ret
        exact ⟨ret_bool (by simp), B6.out⟩
  · obtain ⟨n, hn, k1, k2, k3, k4⟩ : ∃ n : Nat, nb = n ∧ n ≤ na ∧ n ≤ nb ∧ n ≤ nc ∧ (na ≤ n ∨ nb ≤ n ∨ nc ≤ n) := ⟨nb, rfl, by omega, by omega, by omega, by omega⟩
    rw [hn]
    clear hn
    have HX : Hid ((la.take n).length = n ∧ (lb.take n).length = n ∧ (lc.take n).length = n ∧ isB (la.take n) ∧ isB (lb.take n) ∧ isB (lc.take n)) := Lib.hid
      ⟨by rw [List.length_take, HP.out.2.2.2.1]; omega, by rw [List.length_take, HP.out.2.2.2.2.1]; omega, by rw [List.length_take, HP.out.2.2.2.2.2]; omega, HP.out.2.2.1.1.take' n, HP.out.2.2.1.2.1.take' n, HP.out.2.2.1.2.2.take' n⟩
    have HL : Hid ((X3 (la.take n) (lb.take n) (lc.take n)).length = n) := Lib.hid (by rw [X3_len _ _ _ (by rw [HX.out.1, HX.out.2.1]) (by rw [HX.out.2.1, HX.out.2.2.1]), HX.out.1])
    go_loopw [9, 10] (fun v i wr => ∃ k : Nat, k ≤ n ∧ i = .int .i64 (k : Int) ∧ Hid (OwnB wr w1.heap.size v ((X3 (la.take n) (lb.take n) (lc.take n)).take k) ∧ Below W.heap.size W wr ∧ Below w1.heap.size w1 wr)) (fun _ i _ => n - (intOf i).toNat)
    case atStart => exact ⟨0, by omega, rfl, OwnB.nil _ _, B1.out, Below.refl _ _⟩
    case round =>
      obtain ⟨k, hk, rfl, HK⟩ := hrel
      by_cases hlt : k < n
      · have hz := HK.2.2.size
        obtain ⟨ba, oa, x, rfl, hx, x0⟩ := (HP.out.2.1.1.then_ HK.2.1).one (i := k) (by rw [HP.out.2.2.2.1]; omega)
        obtain ⟨bb, ob, y, rfl, hy, y0⟩ := (HP.out.2.1.2.1.then_ HK.2.1).one (i := k) (by rw [HP.out.2.2.2.2.1]; omega)
        obtain ⟨bc, oc, z, rfl, hz', z0⟩ := (HP.out.2.1.2.2.then_ HK.2.1).one (i := k) (by rw [HP.out.2.2.2.2.2]; omega)
        have lowA := Nat.lt_of_lt_of_le (HP.out.2.1.1.lowB ba oa rfl (by rw [HP.out.2.2.2.1]; omega)) hz1
        have lowB := Nat.lt_of_lt_of_le (HP.out.2.1.2.1.lowB bb ob rfl (by rw [HP.out.2.2.2.2.1]; omega)) hz1
        have lowC := Nat.lt_of_lt_of_le (HP.out.2.1.2.2.lowB bc oc rfl (by rw [HP.out.2.2.2.2.2]; omega)) hz1
        have hxb := HP.out.2.2.1.1.at' hx
        have hyb := HP.out.2.2.1.2.1.at' hy
        have hzb := HP.out.2.2.1.2.2.at' hz'
        have HG := Lib.hid (X3_get (la.take n) (lb.take n) (lc.take n) k x y z (by rw [List.getElem?_take_of_lt hlt]; exact hx) (by rw [List.getElem?_take_of_lt hlt]; exact hy) (by rw [List.getElem?_take_of_lt hlt]; exact hz'))
        have HB3 := Lib.hid (byte3 hxb hyb hzb)
        have HTL : Hid (((X3 (la.take n) (lb.take n) (lc.take n)).take k).length = k) := Lib.hid (by rw [List.length_take, HL.out]; omega)
        clear hx hy hz' hxb hyb hzb k4
        have i0 : (0 : Int) ≤ (k : Int) := by omega
        have i1 : (k : Int) < (na : Int) := by omega
        have i2 : (k : Int) < (nb : Int) := by omega
        have i3 : (k : Int) < (nc : Int) := by omega
        have j1 : k < na := by omega
        have j2 : k < nb := by omega
        have j3 : k < nc := by omega
        have HBl : Hid (ba < w1.heap.size ∧ bb < w1.heap.size ∧ bc < w1.heap.size) := Lib.hid ⟨lowA, lowB, lowC⟩
        clear lowA lowB lowC
        go_wp2_with fail
        go_region_held3 (fun w' => w'.cell? ⟨ba, oa + k, none⟩ = some (.int .u8 x) ∧ w'.cell? ⟨bb, ob + k, none⟩ = some (.int .u8 y) ∧ w'.cell? ⟨bc, oc + k, none⟩ = some (.int .u8 z))
          (first | go_keep | exact ⟨e1, e2, e3⟩)
          ((refine stLd _ rfl (.tmp 27) (.tmp 42) rfl w1.heap.size _ _ rfl HK.1 [bits .xor .u8 (bits .xor .u8 x y) z] _ 1 1 rfl rfl rfl rfl (by rw [HTL.out]; omega) hz ?_; intro v' w9 hg; have G1 := Lib.hid hg; clear hg; have far : ∀ q, q < w1.heap.size → w9.heap[q]? = wr.heap[q]? := (G1.out.below HK.1.drew (Below.refl w1.heap.size wr.drew) (Nat.le_refl _) hz).block; have e1 : w9.cell? ⟨ba, oa + k, none⟩ = some (.int .u8 x) := (Eq.trans (World.cell?_of_block (far _ HBl.out.1)) x0); have e2 : w9.cell? ⟨bb, ob + k, none⟩ = some (.int .u8 y) := (Eq.trans (World.cell?_of_block (far _ HBl.out.2.1)) y0); have e3 : w9.cell? ⟨bc, oc + k, none⟩ = some (.int .u8 z) := (Eq.trans (World.cell?_of_block (far _ HBl.out.2.2)) z0)))
        go_wp2_with fail
        go_roundw
        case rel =>
          refine ⟨k + 1, by omega, by go_num, ?_, ?_, ?_⟩
          · have h := G1.out.own
            rw [HB3.out] at h
            rw [take_next HG.out]; exact h
          · exact G1.out.below HK.1.drew HK.2.1.drew hz1 hz
          · exact G1.out.below HK.1.drew HK.2.2.drew (Nat.le_refl _) hz
        case measure => simp [intOf]; omega
      · have hkn : k = n := by omega
        rw [show (X3 (la.take n) (lb.take n) (lc.take n)).take k = X3 (la.take n) (lb.take n) (lc.take n) from List.take_of_length_le (by rw [HL.out]; omega)] at HK
        obtain ⟨av, cv, ev, iv, -⟩ := HK.1.shape
        rw [HL.out] at ev
        subst ev
        have B2 := Lib.hid HK.2.1
        have I2 := Lib.hid iv
        clear HK iv k4 hkn
        go_wp2_with fail
        refine (HP.out.1.sum _ _ n (la.take n) _ B2.out ((HP.out.2.1.1.then_ B2.out).takeS n) HX.out.2.2.2.1 HX.out.1 (by omega)).mono ?_
        rintro e w3 ⟨rfl, b3⟩
        have B3 := Lib.hid (below_then B2.out b3)
        have I3 := Lib.hid (I2.out.then_ b3)
        clear b3
        go_wp2_with fail
        refine (HP.out.1.sum _ _ n (lb.take n) _ B3.out ((HP.out.2.1.2.1.then_ B3.out).takeS n) HX.out.2.2.2.2.1 HX.out.2.1 (by omega)).mono ?_
        rintro e w4 ⟨rfl, b4⟩
        have B4 := Lib.hid (below_then B3.out b4)
        have I4 := Lib.hid (I3.out.then_ b4)
        clear b4
        go_wp2_with fail
        refine (HP.out.1.sum _ _ n (lc.take n) _ B4.out ((HP.out.2.1.2.2.then_ B4.out).takeS n) HX.out.2.2.2.2.2 HX.out.2.2.1 (by omega)).mono ?_
        rintro e w5 ⟨rfl, b5⟩
        have B5 := Lib.hid (below_then B4.out b5)
        have I5 := Lib.hid (I4.out.then_ b5)
        clear b5
        go_wp2_with fail
        refine (HP.out.1.sum _ _ n (X3 (la.take n) (lb.take n) (lc.take n)) _ B5.out I5.out (X3_byte _ _ _ HX.out.2.2.2.1 HX.out.2.2.2.2.1 HX.out.2.2.2.2.2) HL.out (by omega)).mono ?_
        rintro e w6 ⟨rfl, b6⟩
        have B6 := Lib.hid (below_then B5.out b6)
        have HF := Lib.hid (affine_is (by rw [HX.out.1, HX.out.2.1]) (by rw [HX.out.2.1, HX.out.2.2.1]) HX.out.2.2.2.1 HX.out.2.2.2.2.1 HX.out.2.2.2.2.2)
        clear b6
        go_wp2_with fail
        rw [HF.out]
        go_ret
        exact ⟨ret_bool (by simp), B6.out⟩
  · obtain ⟨n, hn, k1, k2, k3, k4⟩ : ∃ n : Nat, na = n ∧ n ≤ na ∧ n ≤ nb ∧ n ≤ nc ∧ (na ≤ n ∨ nb ≤ n ∨ nc ≤ n) := ⟨na, rfl, by omega, by omega, by omega, by omega⟩
    rw [hn]
    clear hn
    have HX : Hid ((la.take n).length = n ∧ (lb.take n).length = n ∧ (lc.take n).length = n ∧ isB (la.take n) ∧ isB (lb.take n) ∧ isB (lc.take n)) := Lib.hid
      ⟨by rw [List.length_take, HP.out.2.2.2.1]; omega, by rw [List.length_take, HP.out.2.2.2.2.1]; omega, by rw [List.length_take, HP.out.2.2.2.2.2]; omega, HP.out.2.2.1.1.take' n, HP.out.2.2.1.2.1.take' n, HP.out.2.2.1.2.2.take' n⟩
    have HL : Hid ((X3 (la.take n) (lb.take n) (lc.take n)).length = n) := Lib.hid (by rw [X3_len _ _ _ (by rw [HX.out.1, HX.out.2.1]) (by rw [HX.out.2.1, HX.out.2.2.1]), HX.out.1])
    go_loopw [9, 10] (fun v i wr => ∃ k : Nat, k ≤ n ∧ i = .int .i64 (k : Int) ∧ Hid (OwnB wr w1.heap.size v ((X3 (la.take n) (lb.take n) (lc.take n)).take k) ∧ Below W.heap.size W wr ∧ Below w1.heap.size w1 wr)) (fun _ i _ => n - (intOf i).toNat)
    case atStart => exact ⟨0, by omega, rfl, OwnB.nil _ _, B1.out, Below.refl _ _⟩
    case round =>
      obtain ⟨k, hk, rfl, HK⟩ := hrel
      by_cases hlt : k < n
      · have hz := HK.2.2.size
        obtain ⟨ba, oa, x, rfl, hx, x0⟩ := (HP.out.2.1.1.then_ HK.2.1).one (i := k) (by rw [HP.out.2.2.2.1]; omega)
        obtain ⟨bb, ob, y, rfl, hy, y0⟩ := (HP.out.2.1.2.1.then_ HK.2.1).one (i := k) (by rw [HP.out.2.2.2.2.1]; omega)
        obtain ⟨bc, oc, z, rfl, hz', z0⟩ := (HP.out.2.1.2.2.then_ HK.2.1).one (i := k) (by rw [HP.out.2.2.2.2.2]; omega)
        have lowA := Nat.lt_of_lt_of_le (HP.out.2.1.1.lowB ba oa rfl (by rw [HP.out.2.2.2.1]; omega)) hz1
        have lowB := Nat.lt_of_lt_of_le (HP.out.2.1.2.1.lowB bb ob rfl (by rw [HP.out.2.2.2.2.1]; omega)) hz1
        have lowC := Nat.lt_of_lt_of_le (HP.out.2.1.2.2.lowB bc oc rfl (by rw [HP.out.2.2.2.2.2]; omega)) hz1
        have hxb := HP.out.2.2.1.1.at' hx
        have hyb := HP.out.2.2.1.2.1.at' hy
        have hzb := HP.out.2.2.1.2.2.at' hz'
        have HG := Lib.hid (X3_get (la.take n) (lb.take n) (lc.take n) k x y z (by rw [List.getElem?_take_of_lt hlt]; exact hx) (by rw [List.getElem?_take_of_lt hlt]; exact hy) (by rw [List.getElem?_take_of_lt hlt]; exact hz'))
        have HB3 := Lib.hid (byte3 hxb hyb hzb)
        have HTL : Hid (((X3 (la.take n) (lb.take n) (lc.take n)).take k).length = k) := Lib.hid (by rw [List.length_take, HL.out]; omega)
        clear hx hy hz' hxb hyb hzb k4
        have i0 : (0 : Int) ≤ (k : Int) := by omega
        have i1 : (k : Int) < (na : Int) := by omega
        have i2 : (k : Int) < (nb : Int) := by omega
        have i3 : (k : Int) < (nc : Int) := by omega
        have j1 : k < na := by omega
        have j2 : k < nb := by omega
        have j3 : k < nc := by omega
        have HBl : Hid (ba < w1.heap.size ∧ bb < w1.heap.size ∧ bc < w1.heap.size) := Lib.hid ⟨lowA, lowB, lowC⟩
        clear lowA lowB lowC
        go_wp2_with fail
        go_region_held3 (fun w' => w'.cell? ⟨ba, oa + k, none⟩ = some (.int .u8 x) ∧ w'.cell? ⟨bb, ob + k, none⟩ = some (.int .u8 y) ∧ w'.cell? ⟨bc, oc + k, none⟩ = some (.int .u8 z))
          (first | go_keep | exact ⟨e1, e2, e3⟩)
          ((refine stLd _ rfl (.tmp 27) (.tmp 42) rfl w1.heap.size _ _ rfl HK.1 [bits .xor .u8 (bits .xor .u8 x y) z] _ 1 1 rfl rfl rfl rfl (by rw [HTL.out]; omega) hz ?_; intro v' w9 hg; have G1 := Lib.hid hg; clear hg; have far : ∀ q, q < w1.heap.size → w9.heap[q]? = wr.heap[q]? := (G1.out.below HK.1.drew (Below.refl w1.heap.size wr.drew) (Nat.le_refl _) hz).block; have e1 : w9.cell? ⟨ba, oa + k, none⟩ = some (.int .u8 x) := (Eq.trans (World.cell?_of_block (far _ HBl.out.1)) x0); have e2 : w9.cell? ⟨bb, ob + k, none⟩ = some (.int .u8 y) := (Eq.trans (World.cell?_of_block (far _ HBl.out.2.1)) y0); have e3 : w9.cell? ⟨bc, oc + k, none⟩ = some (.int .u8 z) := (Eq.trans (World.cell?_of_block (far _ HBl.out.2.2)) z0)))
        go_wp2_with fail
        go_roundw
        case rel =>
          refine ⟨k + 1, by omega, by go_num, ?_, ?_, ?_⟩
          · have h := G1.out.own
            rw [HB3.out] at h
            rw [take_next HG.out]; exact h
          · exact G1.out.below HK.1.drew HK.2.1.drew hz1 hz
          · exact G1.out.below HK.1.drew HK.2.2.drew (Nat.le_refl _) hz
        case measure => simp [intOf]; omega
      · have hkn : k = n := by omega
        rw [show (X3 (la.take n) (lb.take n) (lc.take n)).take k = X3 (la.take n) (lb.take n) (lc.take n) from List.take_of_length_le (by rw [HL.out]; omega)] at HK
        obtain ⟨av, cv, ev, iv, -⟩ := HK.1.shape
        rw [HL.out] at ev
        subst ev
        have B2 := Lib.hid HK.2.1
        have I2 := Lib.hid iv
        clear HK iv k4 hkn
        go_wp2_with fail
        refine (HP.out.1.sum _ _ n (la.take n) _ B2.out ((HP.out.2.1.1.then_ B2.out).takeS n) HX.out.2.2.2.1 HX.out.1 (by omega)).mono ?_
        rintro e w3 ⟨rfl, b3⟩
        have B3 := Lib.hid (below_then B2.out b3)
        have I3 := Lib.hid (I2.out.then_ b3)
        clear b3
        go_wp2_with fail
        refine (HP.out.1.sum _ _ n (lb.take n) _ B3.out ((HP.out.2.1.2.1.then_ B3.out).takeS n) HX.out.2.2.2.2.1 HX.out.2.1 (by omega)).mono ?_
        rintro e w4 ⟨rfl, b4⟩
        have B4 := Lib.hid (below_then B3.out b4)
        have I4 := Lib.hid (I3.out.then_ b4)
        clear b4
        go_wp2_with fail
        refine (HP.out.1.sum _ _ n (lc.take n) _ B4.out ((HP.out.2.1.2.2.then_ B4.out).takeS n) HX.out.2.2.2.2.2 HX.out.2.2.1 (by omega)).mono ?_
        rintro e w5 ⟨rfl, b5⟩
        have B5 := Lib.hid (below_then B4.out b5)
        have I5 := Lib.hid (I4.out.then_ b5)
        clear b5
        go_wp2_with fail
        refine (HP.out.1.sum _ _ n (X3 (la.take n) (lb.take n) (lc.take n)) _ B5.out I5.out (X3_byte _ _ _ HX.out.2.2.2.1 HX.out.2.2.2.2.1 HX.out.2.2.2.2.2) HL.out (by omega)).mono ?_
        rintro e w6 ⟨rfl, b6⟩
        have B6 := Lib.hid (below_then B5.out b6)
        have HF := Lib.hid (affine_is (by rw [HX.out.1, HX.out.2.1]) (by rw [HX.out.2.1, HX.out.2.2.1]) HX.out.2.2.2.1 HX.out.2.2.2.2.1 HX.out.2.2.2.2.2)
        clear b6
        go_wp2_with fail
        rw [HF.out]
        go_ret
        exact ⟨ret_bool (by simp), B6.out⟩
end Go.Proofs.YtocpbkmflihcnaaDoor
