/- The law SumAffine over the contracts. No statement is proved here. -/
import Derived.Test.YtlpnhfceblbllaaDoorSLaw3
namespace Go.Proofs.YtlpnhfceblbllaaDoor
open Go.RowKit
set_option maxRecDepth 100000

def X3 : List Int → List Int → List Int → List Int
  | x :: a, y :: b, z :: c => ((x.toNat ^^^ y.toNat ^^^ z.toNat : Nat) : Int) :: X3 a b c
  | _, _, _ => []
theorem X3_nat (a : List Int) : ∀ (b c : List Int), natL (X3 a b c) = xorL (xorL (natL a) (natL b)) (natL c) := by
  induction a with
  | nil => intro b c; simp [X3, natL, xorL]
  | cons x a ih =>
    intro b c
    cases b with
    | nil => simp [X3, natL, xorL]
    | cons y b => cases c with
      | nil => simp [X3, natL, xorL]
      | cons z c =>
        have h := ih b c
        simp only [natL] at h
        simp [X3, natL, xorL, h]
theorem X3_get (a : List Int) : ∀ (b c : List Int) (k : Nat) (x y z : Int), a[k]? = some x → b[k]? = some y → c[k]? = some z → (X3 a b c)[k]? = some ((x.toNat ^^^ y.toNat ^^^ z.toNat : Nat) : Int) := by
  induction a with
  | nil => intro b c k x y z h; simp at h
  | cons p a ih =>
    intro b c k x y z hx hy hz
    cases b with
    | nil => simp at hy
    | cons q b => cases c with
      | nil => simp at hz
      | cons r c => cases k with
        | zero => simp at hx hy hz; subst hx hy hz; rfl
        | succ k => simp at hx hy hz; rw [X3, List.getElem?_cons_succ]; exact ih b c k x y z hx hy hz
theorem X3_len (a : List Int) : ∀ (b c : List Int), a.length = b.length → b.length = c.length → (X3 a b c).length = a.length := by
  induction a with
  | nil => intro b c _ _; rfl
  | cons x a ih =>
    intro b c h1 h2
    cases b with
    | nil => cases h1
    | cons y b => cases c with
      | nil => cases h2
      | cons z c => simp [X3]; exact ih b c (by simpa using h1) (by simpa using h2)
theorem X3_byte (a : List Int) : ∀ (b c : List Int), isB a → isB b → isB c → isB (X3 a b c) := by
  induction a with
  | nil => intro b c _ _ _; exact isB.nil
  | cons x a ih =>
    intro b c h1 h2 h3
    cases b with
    | nil => exact isB.nil
    | cons y b => cases c with
      | nil => exact isB.nil
      | cons z c =>
        have e1 := h1 x (by simp)
        have e2 := h2 y (by simp)
        have e3 := h3 z (by simp)
        have := Nat.xor_lt_two_pow (n := 8) (Nat.xor_lt_two_pow (n := 8) (show x.toNat < 2 ^ 8 by omega) (show y.toNat < 2 ^ 8 by omega)) (show z.toNat < 2 ^ 8 by omega)
        exact isB.cons (by omega) (ih b c (fun q hq => h1 q (by simp [hq])) (fun q hq => h2 q (by simp [hq])) (fun q hq => h3 q (by simp [hq])))
theorem byte3 {x y z : Int} (h1 : 0 ≤ x ∧ x ≤ 255) (h2 : 0 ≤ y ∧ y ≤ 255) (h3 : 0 ≤ z ∧ z ≤ 255) : bits .xor .u8 (bits .xor .u8 x y) z = ((x.toNat ^^^ y.toNat ^^^ z.toNat : Nat) : Int) := by
  have e := u8_xor x y (by omega) (by omega) (by omega) (by omega)
  have hl := Nat.xor_lt_two_pow (n := 8) (show x.toNat < 2 ^ 8 by omega) (show y.toNat < 2 ^ 8 by omega)
  rw [e, u8_xor _ z (by omega) (by omega) (by omega) (by omega), Int.toNat_natCast]
theorem ofInt_i64' (a : Nat) (ha : a < 9223372036854775808) : (BitVec.ofInt 64 (a : Int)).toNat = a := by
  rw [BitVec.ofInt_natCast, BitVec.toNat_ofNat]; exact Nat.mod_eq_of_lt (by omega)
theorem i64_xor (a b : Nat) (ha : a < 4294967296) (hb : b < 4294967296) : bits .xor .i64 (a : Int) (b : Int) = ((a ^^^ b : Nat) : Int) := by
  have hx : a ^^^ b < 2 ^ 32 := Nat.xor_lt_two_pow (by omega) (by omega)
  show IntKind.i64.wrap ((BitVec.ofInt 64 (a : Int) ^^^ BitVec.ofInt 64 (b : Int)).toNat : Int) = _
  rw [BitVec.toNat_xor, ofInt_i64' a (by omega), ofInt_i64' b (by omega), IntKind.wrap_i64]
  omega
theorem affine_is {a b c : List Int} (h1 : a.length = b.length) (h2 : b.length = c.length) (ha : isB a) (hb : isB b) (hc : isB c) :
    bits .xor .i64 (bits .xor .i64 (moreP 0 a) (moreP 0 b)) (moreP 0 c) = moreP 0 (X3 a b c) := by
  have la := moreN_lt (s := 0) (natL a) (by omega) (natL_byte ha)
  have lb := moreN_lt (s := 0) (natL b) (by omega) (natL_byte hb)
  have lc := moreN_lt (s := 0) (natL c) (by omega) (natL_byte hc)
  have e := moreN_affine (natL a) (natL b) (natL c) (by rw [natL_len, natL_len, h1]) (by rw [natL_len, natL_len, h2])
  rw [moreP_is, moreP_is, moreP_is, moreP_is, X3_nat, e, i64_xor _ _ la lb, i64_xor _ _ (Nat.xor_lt_two_pow (n := 32) la lb) lc]
theorem InB.takeS {w : World} {a : Option Addr} {l : List Int} (h : InB w a l) (k : Nat) : InB w a (l.take k) := fun i x hx => by
  have hi := lt_of_get hx
  rw [List.length_take] at hi
  rw [List.getElem?_take_of_lt (by omega)] at hx
  exact h i x hx
theorem stLd {ops : Array Oper} {o : Oper} {a : Act} {w : World} {K : Act → World → Prop} {Q : Exit → Act → World → Prop} {E : Prop} (cs : Array Value) (hgd : o.guard = none) (s x : Operand)
    (ho : o.op = .call { callee := .builtin .append, args := #[s, x], argTypes := #[22, 22] }) (B : Nat) (v : Value) (l : List Int) (hs : a.eval s = v) (hown : OwnB w B v l)
    (bs : List Int) (g n c : Nat) (hx : a.eval x = .slice (some ⟨g, 0, none⟩) n c) (hg : g = w.heap.size) (hc : cs = (btV bs).toArray) (hn : bs.length = n) (hl : l.length + n ≤ 140737488355328) (hB : B ≤ w.heap.size)
    (h : ∀ v' w', Grew B w.drew w' v v' (l ++ bs) → K (a.put o.dst v') w') : if Region.wanted o (yielded ops a.tmps) = true then Oper.wp Tryd.prog o a ((w.alloc (.cells cs 5)).drew) K Q else E :=
  stL (w := w.drew) cs hgd s x ho B v l hs hown.drew bs g n c hx hg hc hn hl hB h
end Go.Proofs.YtlpnhfceblbllaaDoor
