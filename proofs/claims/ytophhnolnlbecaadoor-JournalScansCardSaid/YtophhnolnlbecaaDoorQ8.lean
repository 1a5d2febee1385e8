/- The law SumParts over the contracts. The law SumAffine over the contracts. The law SumTells over the contracts. No statement is proved here. -/
import Derived.Test.YtophhnolnlbecaaDoorQ7
namespace Go.Proofs.YtophhnolnlbecaaDoor
open Go.RowKit
set_option maxRecDepth 100000

theorem moreP_is (l : List Int) : moreP 0 l = ((moreN 0 (natL l) : Nat) : Int) := rfl
theorem moreP_may {l : List Int} (h : isB l) : mayB (moreP 0 l) = true := decide_eq_true (moreP_rng h)
theorem moreP_app {a b : List Int} (ha : isB a) : moreP (moreP 0 a) b = moreP 0 (a ++ b) ∧ moreE (moreP 0 a) = 0 := by
  constructor
  · have h := moreP_may ha
    rw [moreP_is] at h ⊢
    rw [moreP_is, natL_append, moreN_append]
    generalize moreN 0 (natL a) = A at *
    unfold moreP
    rw [h, if_pos rfl, Int.toNat_natCast]
  · unfold moreE
    rw [moreP_may ha]; rfl
theorem joinP_app {a b : List Int} (ha : isB a) (hb : isB b) {n : Nat} (hn : b.length = n) : joinP (moreP 0 a) (moreP 0 b) n = moreP 0 (a ++ b) ∧ joinE (moreP 0 a) (moreP 0 b) n = 0 := by
  have hk : okJ (moreP 0 a) (moreP 0 b) n = true := by
    unfold okJ
    rw [moreP_may ha, moreP_may hb]
    simp
  constructor
  · unfold joinP
    rw [hk, if_pos rfl, moreP_is, moreP_is, moreP_is, Int.toNat_natCast, Int.toNat_natCast, Int.toNat_natCast, natL_append, moreN_join, natL_len, hn]
  · unfold joinE
    rw [hk]; rfl
end Go.Proofs.YtophhnolnlbecaaDoor
namespace Go.Proofs.YtophhnolnlbecaaDoor
open Go.RowKit
set_option maxRecDepth 100000

def X3 : List Int → List Int → List Int → List Int
  | x :: a, y :: b, z :: c => ((x.toNat ^^^ y.toNat ^^^ z.toNat : Nat) : Int) :: X3 a b c
  | _, _, _ => []
theorem X3_nat (a : List Int) : ∀ (b c : List Int), natL (X3 a b c) = xorL (xorL (natL a) (natL b)) (natL c) := by
  induction a with
  | nil => intro b c; simp [X3, natL, xorL]
  | cons x a ih =>
    intro b c
    cases b with
    | nil => simp [X3, natL, xorL]
    | cons y b => cases c with
      | nil => simp [X3, natL, xorL]
      | cons z c =>
        have h := ih b c
        simp only [natL] at h
        simp [X3, natL, xorL, h]
theorem X3_get (a : List Int) : ∀ (b c : List Int) (k : Nat) (x y z : Int), a[k]? = some x → b[k]? = some y → c[k]? = some z → (X3 a b c)[k]? = some ((x.toNat ^^^ y.toNat ^^^ z.toNat : Nat) : Int) := by
  induction a with
  | nil => intro b c k x y z h; simp at h
  | cons p a ih =>
    intro b c k x y z hx hy hz
    cases b with
    | nil => simp at hy
    | cons q b => cases c with
      | nil => simp at hz
      | cons r c => cases k with
        | zero => simp at hx hy hz; subst hx hy hz; rfl
        | succ k => simp at hx hy hz; rw [X3, List.getElem?_cons_succ]; exact ih b c k x y z hx hy hz
theorem X3_len (a : List Int) : ∀ (b c : List Int), a.length = b.length → b.length = c.length → (X3 a b c).length = a.length := by
  induction a with
  | nil => intro b c _ _; rfl
  | cons x a ih =>
    intro b c h1 h2
    cases b with
    | nil => cases h1
    | cons y b => cases c with
      | nil => cases h2
      | cons z c => simp [X3]; exact ih b c (by simpa using h1) (by simpa using h2)
theorem X3_byte (a : List Int) : ∀ (b c : List Int), isB a → isB b → isB c → isB (X3 a b c) := by
  induction a with
  | nil => intro b c _ _ _; exact isB.nil
  | cons x a ih =>
    intro b c h1 h2 h3
    cases b with
    | nil => exact isB.nil
    | cons y b => cases c with
      | nil => exact isB.nil
      | cons z c =>
        have e1 := h1 x (by simp)
        have e2 := h2 y (by simp)
        have e3 := h3 z (by simp)
        have := Nat.xor_lt_two_pow (n := 8) (Nat.xor_lt_two_pow (n := 8) (show x.toNat < 2 ^ 8 by omega) (show y.toNat < 2 ^ 8 by omega)) (show z.toNat < 2 ^ 8 by omega)
        exact isB.cons (by omega) (ih b c (fun q hq => h1 q (by simp [hq])) (fun q hq => h2 q (by simp [hq])) (fun q hq => h3 q (by simp [hq])))
theorem byte3 {x y z : Int} (h1 : 0 ≤ x ∧ x ≤ 255) (h2 : 0 ≤ y ∧ y ≤ 255) (h3 : 0 ≤ z ∧ z ≤ 255) : bits .xor .u8 (bits .xor .u8 x y) z = ((x.toNat ^^^ y.toNat ^^^ z.toNat : Nat) : Int) := by
  have e := u8_xor x y (by omega) (by omega) (by omega) (by omega)
  have hl := Nat.xor_lt_two_pow (n := 8) (show x.toNat < 2 ^ 8 by omega) (show y.toNat < 2 ^ 8 by omega)
  rw [e, u8_xor _ z (by omega) (by omega) (by omega) (by omega), Int.toNat_natCast]
theorem ofInt_i64' (a : Nat) (ha : a < 9223372036854775808) : (BitVec.ofInt 64 (a : Int)).toNat = a := by
  rw [BitVec.ofInt_natCast, BitVec.toNat_ofNat]; exact Nat.mod_eq_of_lt (by omega)
theorem i64_xor (a b : Nat) (ha : a < 4294967296) (hb : b < 4294967296) : bits .xor .i64 (a : Int) (b : Int) = ((a ^^^ b : Nat) : Int) := by
  have hx : a ^^^ b < 2 ^ 32 := Nat.xor_lt_two_pow (by omega) (by omega)
  show IntKind.i64.wrap ((BitVec.ofInt 64 (a : Int) ^^^ BitVec.ofInt 64 (b : Int)).toNat : Int) = _
  rw [BitVec.toNat_xor, ofInt_i64' a (by omega), ofInt_i64' b (by omega), IntKind.wrap_i64]
  omega
theorem affine_is {a b c : List Int} (h1 : a.length = b.length) (h2 : b.length = c.length) (ha : isB a) (hb : isB b) (hc : isB c) :
    bits .xor .i64 (bits .xor .i64 (moreP 0 a) (moreP 0 b)) (moreP 0 c) = moreP 0 (X3 a b c) := by
  have la := moreN_lt (s := 0) (natL a) (by omega) (natL_byte ha)
  have lb := moreN_lt (s := 0) (natL b) (by omega) (natL_byte hb)
  have lc := moreN_lt (s := 0) (natL c) (by omega) (natL_byte hc)
  have e := moreN_affine (natL a) (natL b) (natL c) (by rw [natL_len, natL_len, h1]) (by rw [natL_len, natL_len, h2])
  rw [moreP_is, moreP_is, moreP_is, moreP_is, X3_nat, e, i64_xor _ _ la lb, i64_xor _ _ (Nat.xor_lt_two_pow (n := 32) la lb) lc]
theorem InB.takeS {w : World} {a : Option Addr} {l : List Int} (h : InB w a l) (k : Nat) : InB w a (l.take k) := fun i x hx => by
  have hi := lt_of_get hx
  rw [List.length_take] at hi
  rw [List.getElem?_take_of_lt (by omega)] at hx
  exact h i x hx
theorem stLd {ops : Array Oper} {o : Oper} {a : Act} {w : World} {K : Act → World → Prop} {Q : Exit → Act → World → Prop} {E : Prop} (cs : Array Value) (hgd : o.guard = none) (s x : Operand)
    (ho : o.op = .call { callee := .builtin .append, args := #[s, x], argTypes := #[22, 22] }) (B : Nat) (v : Value) (l : List Int) (hs : a.eval s = v) (hown : OwnB w B v l)
    (bs : List Int) (g n c : Nat) (hx : a.eval x = .slice (some ⟨g, 0, none⟩) n c) (hg : g = w.heap.size) (hc : cs = (btV bs).toArray) (hn : bs.length = n) (hl : l.length + n ≤ 140737488355328) (hB : B ≤ w.heap.size)
    (h : ∀ v' w', Grew B w.drew w' v v' (l ++ bs) → K (a.put o.dst v') w') : if Region.wanted o (yielded ops a.tmps) = true then Oper.wp Tryd.prog o a ((w.alloc (.cells cs 5)).drew) K Q else E :=
  stL (w := w.drew) cs hgd s x ho B v l hs hown.drew bs g n c hx hg hc hn hl hB h
end Go.Proofs.YtophhnolnlbecaaDoor
namespace Go.Proofs.YtophhnolnlbecaaDoor
open Go.RowKit
set_option maxRecDepth 100000

theorem natL_inj : ∀ {a b : List Int}, isB a → isB b → natL a = natL b → a = b
  | [], [], _, _, _ => rfl
  | [], _ :: _, _, _, h => by simp [natL] at h
  | _ :: _, [], _, _, h => by simp [natL] at h
  | x :: a, y :: b, ha, hb, h => by
    simp only [natL, List.map_cons, List.cons.injEq] at h
    have h1 := ha x (by simp)
    have h2 := hb y (by simp)
    rw [show x = y by omega, natL_inj (fun z hz => ha z (by simp [hz])) (fun z hz => hb z (by simp [hz])) h.2]
theorem tells_is {a d e c : List Int} (hd : isB d) (he : isB e) (hl : d.length = e.length) (h4 : d.length ≤ 4) : (moreP 0 (a ++ (d ++ c)) = moreP 0 (a ++ (e ++ c))) ↔ d = e := by
  rw [moreP_is, moreP_is, natL_append, natL_append, natL_append, natL_append]
  have h := moreN_tells (natL a) (natL d) (natL e) (natL c) (by rw [natL_len, natL_len, hl]) (by rw [natL_len]; exact h4) (natL_byte hd) (natL_byte he)
  constructor
  · intro q
    exact natL_inj hd he (h.1 (by omega))
  · rintro rfl; rfl
theorem xor_byte {z y : Int} (hz : 0 ≤ z ∧ z ≤ 255) (hy : 0 ≤ y ∧ y ≤ 255) : (0 ≤ bits .xor .u8 z y ∧ bits .xor .u8 z y ≤ 255) ∧ (bits .xor .u8 z y = z ↔ y = 0) := by
  have e := u8_xor z y (by omega) (by omega) (by omega) (by omega)
  have hl := Nat.xor_lt_two_pow (n := 8) (show z.toNat < 2 ^ 8 by omega) (show y.toNat < 2 ^ 8 by omega)
  rw [e]
  refine ⟨by omega, fun h => ?_, fun h => ?_⟩
  · have h1 : z.toNat ^^^ y.toNat = z.toNat := by omega
    have h2 := congrArg (z.toNat ^^^ ·) h1
    simp only [xor_self_left, Nat.xor_self] at h2
    omega
  · subst h
    simp
    omega
/-- The part that was turned so far. -/
structure Turned (la : List Int) (k i : Nat) (d : List Int) (same : Bool) : Prop where
  len : d.length = i
  byte : isB d
  same_ : same = decide (d = (la.drop k).take i)
  fits : k + i ≤ la.length
theorem Turned.next {la : List Int} {k i : Nat} {d : List Int} {same : Bool} (h : Turned la k i d same) {z y : Int} (hz : la[k + i]? = some z) (hzb : 0 ≤ z ∧ z ≤ 255) (hy : 0 ≤ y ∧ y ≤ 255) :
    Turned la k (i + 1) (d ++ [bits .xor .u8 z y]) (same && decide (y = 0)) ∧ (la.take k ++ (d ++ la.drop (k + i))).set (k + i) (bits .xor .u8 z y) = la.take k ++ ((d ++ [bits .xor .u8 z y]) ++ la.drop (k + (i + 1))) ∧ (la.take k ++ (d ++ la.drop (k + i)))[k + i]? = some z := by
  have hi := lt_of_get hz
  have hx := xor_byte hzb hy
  have e1 : (la.drop k).take (i + 1) = (la.drop k).take i ++ [z] := by rw [List.take_add_one, List.getElem?_drop, hz]; rfl
  have hg : la[k + i] = z := by rw [List.getElem?_eq_getElem hi] at hz; injection hz
  have e2 : la.drop (k + i) = z :: la.drop (k + (i + 1)) := by rw [List.drop_eq_getElem_cons hi, hg]; rfl
  have hlt : (la.take k).length = k := by rw [List.length_take]; have := h.fits; omega
  refine ⟨⟨by rw [List.length_append, h.len]; rfl, h.byte.append (fun q hq => by simp at hq; subst hq; exact hx.1), ?_, by omega⟩, ?_, ?_⟩
  · rw [h.same_, e1, Bool.eq_iff_iff, Bool.and_eq_true, decide_eq_true_eq, decide_eq_true_eq, decide_eq_true_eq, ← hx.2]
    constructor
    · rintro ⟨h1, h2⟩; rw [← h1, h2]
    · intro h1
      have := List.append_inj h1 (by rw [h.len, List.length_take, List.length_drop]; omega)
      exact ⟨this.1, by have := this.2; injection this⟩
  · rw [List.set_append_right _ _ (by omega), hlt, List.set_append_right _ _ (by rw [h.len]; omega), h.len, e2, show k + i - k - i = 0 by omega, List.set_cons_zero]
    simp
  · rw [List.getElem?_append_right (by omega), hlt, List.getElem?_append_right (by rw [h.len]; omega), h.len, e2, show k + i - k - i = 0 by omega]
    rfl
theorem turned_end {l : List Int} {K i : Nat} {d : List Int} {b : Bool} (h : Turned l K i d b) (hB : isB l) (h4 : i ≤ 4) : (moreP 0 l == moreP 0 (l.take K ++ (d ++ l.drop (K + i)))) = b := by
  have hl : l = l.take K ++ ((l.drop K).take i ++ l.drop (K + i)) := by
    rw [show l.drop (K + i) = (l.drop K).drop i by rw [List.drop_drop], List.take_append_drop, List.take_append_drop]
  have he : d.length = ((l.drop K).take i).length := by rw [h.len, List.length_take, List.length_drop]; have := h.fits; omega
  have ht := tells_is (a := l.take K) (c := l.drop (K + i)) h.byte ((hB.drop K).take' i) he (by rw [h.len]; exact h4)
  rw [← hl] at ht
  rw [h.same_, Bool.eq_iff_iff, beq_iff_eq, decide_eq_true_eq, ← ht]
  exact eq_comm
end Go.Proofs.YtophhnolnlbecaaDoor
