/- The laws SumAdds and SumJoins over the contracts. The law SumNumbers over the contracts. The law SumParts over the contracts. The law SumAffine over the contracts. The law SumTells over the contracts. A page is opened as it was made; a page that was turned is refused: plain words. No statement is proved here. -/
import Derived.Test.YtonjapphhbhcpaaDoorSEnv
import Derived.Test.YtonjapphhbhcpaaDoorGOpen
namespace Go.Proofs.YtonjapphhbhcpaaDoor
open Go.RowKit
set_option maxRecDepth 100000

theorem InB.lowB {w : World} {a : Option Addr} {l : List Int} (h : InB w a l) : ∀ b o, a = some (⟨b, o, none⟩ : Addr) → 1 ≤ l.length → b < w.heap.size := by
  intro b o e hl
  obtain ⟨b', o', x, e', -, hc⟩ := h.one (i := 0) (by omega)
  rw [e] at e'
  injection e' with e'
  injection e' with e1 e2
  subst e1
  exact cell_lt hc
end Go.Proofs.YtonjapphhbhcpaaDoor
namespace Go.Proofs.YtonjapphhbhcpaaDoor
open Go.RowKit
set_option maxRecDepth 100000

theorem rows_two {w : World} {B : Nat} {v1 v2 : Value} {l1 l2 : List Int} (h1 : OwnB w B v1 l1) (h2 : OwnB w B v2 l2) (hd : ∀ g, v1.ownBlock = some g → v2.ownBlock ≠ some g) (t : TypeId) : RowsAt (w.alloc (.cells #[v1, v2] t)) B w.heap.size 0 [(v1, l1), (v2, l2)] := by
  have new : ∀ (i : Nat) (u : Value), [v1, v2][i]? = some u → (w.alloc (.cells #[v1, v2] t)).cell? ⟨w.heap.size, 0 + i, none⟩ = some u := fun i u hu => by
    have h := news_at w #[v1, v2] t _ rfl i u hu
    rw [show (⟨w.heap.size, 0, none⟩ : Addr).add i = ⟨w.heap.size, 0 + i, none⟩ by unfold Addr.add; split <;> simp_all] at h
    exact h
  have two : ∀ (i : Nat) (v : Value) (l : List Int), [(v1, l1), (v2, l2)][i]? = some (v, l) → (i = 0 ∧ v = v1 ∧ l = l1) ∨ (i = 1 ∧ v = v2 ∧ l = l2) := fun i v l hi => by
    have := lt_of_get hi
    simp at this
    rcases (by omega : i = 0 ∨ i = 1) with rfl | rfl
    · left; injection hi with hi; injection hi with e1 e2; exact ⟨rfl, e1.symm, e2.symm⟩
    · right; injection hi with hi; injection hi with e1 e2; exact ⟨rfl, e1.symm, e2.symm⟩
  refine ⟨fun i v l hi => ?_, fun i v l hi => ?_, fun i v l hi e => ?_, fun i j v l v' l' hi hj hij g hg hg' => ?_⟩
  · rcases two i v l hi with ⟨rfl, rfl, rfl⟩ | ⟨rfl, rfl, rfl⟩
    · exact new 0 _ rfl
    · exact new 1 _ rfl
  · rcases two i v l hi with ⟨rfl, rfl, rfl⟩ | ⟨rfl, rfl, rfl⟩
    · exact h1.alloc _
    · exact h2.alloc _
  · rcases two i v l hi with ⟨rfl, rfl, rfl⟩ | ⟨rfl, rfl, rfl⟩
    · have := (h1.block _ e).2; omega
    · have := (h2.block _ e).2; omega
  · rcases two i v l hi with ⟨rfl, rfl, rfl⟩ | ⟨rfl, rfl, rfl⟩ <;> rcases two j v' l' hj with ⟨rfl, rfl, rfl⟩ | ⟨rfl, rfl, rfl⟩
    · omega
    · exact hd g hg hg'
    · exact hd g hg' hg
    · omega
theorem numL_len (n size : Int) : (numL n size).length ≤ 8 := by
  unfold numL
  cases h : okN n size
  · simp
  · have := of_decide_eq_true h
    simp [leB_len]
    omega
theorem OwnB.isNil {w : World} {B n c : Nat} {a : Option Addr} {l : List Int} (h : OwnB w B (.slice a n c) l) : a = none → l = [] := fun e => by
  obtain ⟨a', c', e', -, h0, -⟩ := h.shape
  injection e' with e1
  subst e1
  exact (h0 e).2
end Go.Proofs.YtonjapphhbhcpaaDoor
namespace Go.Proofs.YtonjapphhbhcpaaDoor
open Go.RowKit
set_option maxRecDepth 100000

theorem moreP_is (l : List Int) : moreP 0 l = ((moreN 0 (natL l) : Nat) : Int) := rfl
theorem moreP_may {l : List Int} (h : isB l) : mayB (moreP 0 l) = true := decide_eq_true (moreP_rng h)
theorem moreP_app {a b : List Int} (ha : isB a) : moreP (moreP 0 a) b = moreP 0 (a ++ b) ∧ moreE (moreP 0 a) = 0 := by
  constructor
  · have h := moreP_may ha
    rw [moreP_is] at h ⊢
    rw [moreP_is, natL_append, moreN_append]
    generalize moreN 0 (natL a) = A at *
    unfold moreP
    rw [h, if_pos rfl, Int.toNat_natCast]
  · unfold moreE
    rw [moreP_may ha]; rfl
theorem joinP_app {a b : List Int} (ha : isB a) (hb : isB b) {n : Nat} (hn : b.length = n) : joinP (moreP 0 a) (moreP 0 b) n = moreP 0 (a ++ b) ∧ joinE (moreP 0 a) (moreP 0 b) n = 0 := by
  have hk : okJ (moreP 0 a) (moreP 0 b) n = true := by
    unfold okJ
    rw [moreP_may ha, moreP_may hb]
    simp
  constructor
  · unfold joinP
    rw [hk, if_pos rfl, moreP_is, moreP_is, moreP_is, Int.toNat_natCast, Int.toNat_natCast, Int.toNat_natCast, natL_append, moreN_join, natL_len, hn]
  · unfold joinE
    rw [hk]; rfl
end Go.Proofs.YtonjapphhbhcpaaDoor
namespace Go.Proofs.YtonjapphhbhcpaaDoor
open Go.RowKit
set_option maxRecDepth 100000

def X3 : List Int → List Int → List Int → List Int
  | x :: a, y :: b, z :: c => ((x.toNat ^^^ y.toNat ^^^ z.toNat : Nat) : Int) :: X3 a b c
  | _, _, _ => []
theorem X3_nat (a : List Int) : ∀ (b c : List Int), natL (X3 a b c) = xorL (xorL (natL a) (natL b)) (natL c) := by
  induction a with
  | nil => intro b c; simp [X3, natL, xorL]
  | cons x a ih =>
    intro b c
    cases b with
    | nil => simp [X3, natL, xorL]
    | cons y b => cases c with
      | nil => simp [X3, natL, xorL]
      | cons z c =>
        have h := ih b c
        simp only [natL] at h
        simp [X3, natL, xorL, h]
theorem X3_get (a : List Int) : ∀ (b c : List Int) (k : Nat) (x y z : Int), a[k]? = some x → b[k]? = some y → c[k]? = some z → (X3 a b c)[k]? = some ((x.toNat ^^^ y.toNat ^^^ z.toNat : Nat) : Int) := by
  induction a with
  | nil => intro b c k x y z h; simp at h
  | cons p a ih =>
    intro b c k x y z hx hy hz
    cases b with
    | nil => simp at hy
    | cons q b => cases c with
      | nil => simp at hz
      | cons r c => cases k with
        | zero => simp at hx hy hz; subst hx hy hz; rfl
        | succ k => simp at hx hy hz; rw [X3, List.getElem?_cons_succ]; exact ih b c k x y z hx hy hz
theorem X3_len (a : List Int) : ∀ (b c : List Int), a.length = b.length → b.length = c.length → (X3 a b c).length = a.length := by
  induction a with
  | nil => intro b c _ _; rfl
  | cons x a ih =>
    intro b c h1 h2
    cases b with
    | nil => cases h1
    | cons y b => cases c with
      | nil => cases h2
      | cons z c => simp [X3]; exact ih b c (by simpa using h1) (by simpa using h2)
theorem X3_byte (a : List Int) : ∀ (b c : List Int), isB a → isB b → isB c → isB (X3 a b c) := by
  induction a with
  | nil => intro b c _ _ _; exact isB.nil
  | cons x a ih =>
    intro b c h1 h2 h3
    cases b with
    | nil => exact isB.nil
    | cons y b => cases c with
      | nil => exact isB.nil
      | cons z c =>
        have e1 := h1 x (by simp)
        have e2 := h2 y (by simp)
        have e3 := h3 z (by simp)
        have := Nat.xor_lt_two_pow (n := 8) (Nat.xor_lt_two_pow (n := 8) (show x.toNat < 2 ^ 8 by omega) (show y.toNat < 2 ^ 8 by omega)) (show z.toNat < 2 ^ 8 by omega)
        exact isB.cons (by omega) (ih b c (fun q hq => h1 q (by simp [hq])) (fun q hq => h2 q (by simp [hq])) (fun q hq => h3 q (by simp [hq])))
theorem byte3 {x y z : Int} (h1 : 0 ≤ x ∧ x ≤ 255) (h2 : 0 ≤ y ∧ y ≤ 255) (h3 : 0 ≤ z ∧ z ≤ 255) : bits .xor .u8 (bits .xor .u8 x y) z = ((x.toNat ^^^ y.toNat ^^^ z.toNat : Nat) : Int) := by
  have e := u8_xor x y (by omega) (by omega) (by omega) (by omega)
  have hl := Nat.xor_lt_two_pow (n := 8) (show x.toNat < 2 ^ 8 by omega) (show y.toNat < 2 ^ 8 by omega)
  rw [e, u8_xor _ z (by omega) (by omega) (by omega) (by omega), Int.toNat_natCast]
theorem ofInt_i64' (a : Nat) (ha : a < 9223372036854775808) : (BitVec.ofInt 64 (a : Int)).toNat = a := by
  rw [BitVec.ofInt_natCast, BitVec.toNat_ofNat]; exact Nat.mod_eq_of_lt (by omega)
theorem i64_xor (a b : Nat) (ha : a < 4294967296) (hb : b < 4294967296) : bits .xor .i64 (a : Int) (b : Int) = ((a ^^^ b : Nat) : Int) := by
  have hx : a ^^^ b < 2 ^ 32 := Nat.xor_lt_two_pow (by omega) (by omega)
  show IntKind.i64.wrap ((BitVec.ofInt 64 (a : Int) ^^^ BitVec.ofInt 64 (b : Int)).toNat : Int) = _
  rw [BitVec.toNat_xor, ofInt_i64' a (by omega), ofInt_i64' b (by omega), IntKind.wrap_i64]
  omega
theorem affine_is {a b c : List Int} (h1 : a.length = b.length) (h2 : b.length = c.length) (ha : isB a) (hb : isB b) (hc : isB c) :
    bits .xor .i64 (bits .xor .i64 (moreP 0 a) (moreP 0 b)) (moreP 0 c) = moreP 0 (X3 a b c) := by
  have la := moreN_lt (s := 0) (natL a) (by omega) (natL_byte ha)
  have lb := moreN_lt (s := 0) (natL b) (by omega) (natL_byte hb)
  have lc := moreN_lt (s := 0) (natL c) (by omega) (natL_byte hc)
  have e := moreN_affine (natL a) (natL b) (natL c) (by rw [natL_len, natL_len, h1]) (by rw [natL_len, natL_len, h2])
  rw [moreP_is, moreP_is, moreP_is, moreP_is, X3_nat, e, i64_xor _ _ la lb, i64_xor _ _ (Nat.xor_lt_two_pow (n := 32) la lb) lc]
theorem InB.takeS {w : World} {a : Option Addr} {l : List Int} (h : InB w a l) (k : Nat) : InB w a (l.take k) := fun i x hx => by
  have hi := lt_of_get hx
  rw [List.length_take] at hi
  rw [List.getElem?_take_of_lt (by omega)] at hx
  exact h i x hx
theorem stLd {ops : Array Oper} {o : Oper} {a : Act} {w : World} {K : Act → World → Prop} {Q : Exit → Act → World → Prop} {E : Prop} (cs : Array Value) (hgd : o.guard = none) (s x : Operand)
    (ho : o.op = .call { callee := .builtin .append, args := #[s, x], argTypes := #[24, 24] }) (B : Nat) (v : Value) (l : List Int) (hs : a.eval s = v) (hown : OwnB w B v l)
    (bs : List Int) (g n c : Nat) (hx : a.eval x = .slice (some ⟨g, 0, none⟩) n c) (hg : g = w.heap.size) (hc : cs = (btV bs).toArray) (hn : bs.length = n) (hl : l.length + n ≤ 140737488355328) (hB : B ≤ w.heap.size)
    (h : ∀ v' w', Grew B w.drew w' v v' (l ++ bs) → K (a.put o.dst v') w') : if Region.wanted o (yielded ops a.tmps) = true then Oper.wp Tryd.prog o a ((w.alloc (.cells cs 5)).drew) K Q else E :=
  stL (w := w.drew) cs hgd s x ho B v l hs hown.drew bs g n c hx hg hc hn hl hB h
end Go.Proofs.YtonjapphhbhcpaaDoor
namespace Go.Proofs.YtonjapphhbhcpaaDoor
open Go.RowKit
set_option maxRecDepth 100000

theorem natL_inj : ∀ {a b : List Int}, isB a → isB b → natL a = natL b → a = b
  | [], [], _, _, _ => rfl
  | [], _ :: _, _, _, h => by simp [natL] at h
  | _ :: _, [], _, _, h => by simp [natL] at h
  | x :: a, y :: b, ha, hb, h => by
    simp only [natL, List.map_cons, List.cons.injEq] at h
    have h1 := ha x (by simp)
    have h2 := hb y (by simp)
    rw [show x = y by omega, natL_inj (fun z hz => ha z (by simp [hz])) (fun z hz => hb z (by simp [hz])) h.2]
theorem tells_is {a d e c : List Int} (hd : isB d) (he : isB e) (hl : d.length = e.length) (h4 : d.length ≤ 4) : (moreP 0 (a ++ (d ++ c)) = moreP 0 (a ++ (e ++ c))) ↔ d = e := by
  rw [moreP_is, moreP_is, natL_append, natL_append, natL_append, natL_append]
  have h := moreN_tells (natL a) (natL d) (natL e) (natL c) (by rw [natL_len, natL_len, hl]) (by rw [natL_len]; exact h4) (natL_byte hd) (natL_byte he)
  constructor
  · intro q
    exact natL_inj hd he (h.1 (by omega))
  · rintro rfl; rfl
theorem xor_byte {z y : Int} (hz : 0 ≤ z ∧ z ≤ 255) (hy : 0 ≤ y ∧ y ≤ 255) : (0 ≤ bits .xor .u8 z y ∧ bits .xor .u8 z y ≤ 255) ∧ (bits .xor .u8 z y = z ↔ y = 0) := by
  have e := u8_xor z y (by omega) (by omega) (by omega) (by omega)
  have hl := Nat.xor_lt_two_pow (n := 8) (show z.toNat < 2 ^ 8 by omega) (show y.toNat < 2 ^ 8 by omega)
  rw [e]
  refine ⟨by omega, fun h => ?_, fun h => ?_⟩
  · have h1 : z.toNat ^^^ y.toNat = z.toNat := by omega
    have h2 := congrArg (z.toNat ^^^ ·) h1
    simp only [xor_self_left, Nat.xor_self] at h2
    omega
  · subst h
    simp
    omega
/-- The part that was turned so far. -/
structure Turned (la : List Int) (k i : Nat) (d : List Int) (same : Bool) : Prop where
  len : d.length = i
  byte : isB d
  same_ : same = decide (d = (la.drop k).take i)
  fits : k + i ≤ la.length
theorem Turned.next {la : List Int} {k i : Nat} {d : List Int} {same : Bool} (h : Turned la k i d same) {z y : Int} (hz : la[k + i]? = some z) (hzb : 0 ≤ z ∧ z ≤ 255) (hy : 0 ≤ y ∧ y ≤ 255) :
    Turned la k (i + 1) (d ++ [bits .xor .u8 z y]) (same && decide (y = 0)) ∧ (la.take k ++ (d ++ la.drop (k + i))).set (k + i) (bits .xor .u8 z y) = la.take k ++ ((d ++ [bits .xor .u8 z y]) ++ la.drop (k + (i + 1))) ∧ (la.take k ++ (d ++ la.drop (k + i)))[k + i]? = some z := by
  have hi := lt_of_get hz
  have hx := xor_byte hzb hy
  have e1 : (la.drop k).take (i + 1) = (la.drop k).take i ++ [z] := by rw [List.take_add_one, List.getElem?_drop, hz]; rfl
  have hg : la[k + i] = z := by rw [List.getElem?_eq_getElem hi] at hz; injection hz
  have e2 : la.drop (k + i) = z :: la.drop (k + (i + 1)) := by rw [List.drop_eq_getElem_cons hi, hg]; rfl
  have hlt : (la.take k).length = k := by rw [List.length_take]; have := h.fits; omega
  refine ⟨⟨by rw [List.length_append, h.len]; rfl, h.byte.append (fun q hq => by simp at hq; subst hq; exact hx.1), ?_, by omega⟩, ?_, ?_⟩
  · rw [h.same_, e1, Bool.eq_iff_iff, Bool.and_eq_true, decide_eq_true_eq, decide_eq_true_eq, decide_eq_true_eq, ← hx.2]
    constructor
    · rintro ⟨h1, h2⟩; rw [← h1, h2]
    · intro h1
      have := List.append_inj h1 (by rw [h.len, List.length_take, List.length_drop]; omega)
      exact ⟨this.1, by have := this.2; injection this⟩
  · rw [List.set_append_right _ _ (by omega), hlt, List.set_append_right _ _ (by rw [h.len]; omega), h.len, e2, show k + i - k - i = 0 by omega, List.set_cons_zero]
    simp
  · rw [List.getElem?_append_right (by omega), hlt, List.getElem?_append_right (by rw [h.len]; omega), h.len, e2, show k + i - k - i = 0 by omega]
    rfl
theorem turned_end {l : List Int} {K i : Nat} {d : List Int} {b : Bool} (h : Turned l K i d b) (hB : isB l) (h4 : i ≤ 4) : (moreP 0 l == moreP 0 (l.take K ++ (d ++ l.drop (K + i)))) = b := by
  have hl : l = l.take K ++ ((l.drop K).take i ++ l.drop (K + i)) := by
    rw [show l.drop (K + i) = (l.drop K).drop i by rw [List.drop_drop], List.take_append_drop, List.take_append_drop]
  have he : d.length = ((l.drop K).take i).length := by rw [h.len, List.length_take, List.length_drop]; have := h.fits; omega
  have ht := tells_is (a := l.take K) (c := l.drop (K + i)) h.byte ((hB.drop K).take' i) he (by rw [h.len]; exact h4)
  rw [← hl] at ht
  rw [h.same_, Bool.eq_iff_iff, beq_iff_eq, decide_eq_true_eq, ← ht]
  exact eq_comm
end Go.Proofs.YtonjapphhbhcpaaDoor
namespace Go.Proofs.YtonjapphhbhcpaaDoor
open Go.RowKit
set_option maxRecDepth 100000

theorem cut_at {a b c : List Int} {n s : Int} (ha : n = a.length) (hb : s = b.length) : cutB (a ++ (b ++ c)) n s = b := by
  subst ha hb
  unfold cutB
  rw [Int.toNat_natCast, Int.toNat_natCast, List.drop_left' rfl, List.take_left' rfl]
theorem page_sum (number kind : Int) (body : List Int) : cutB (pageL number kind body) 0 4 = leB 4 (moreP 0 (restL number kind body)) := by
  have h := cut_at (a := []) (b := leB 4 (moreP 0 (restL number kind body))) (c := restL number kind body) (n := 0) (s := 4) rfl (by rw [leB_len]; rfl)
  exact h
theorem page_rest (number kind : Int) (body : List Int) : (pageL number kind body).drop 4 = restL number kind body := List.drop_left' (leB_len _ _)
theorem page_number (number kind : Int) (body : List Int) : cutB (pageL number kind body) 4 4 = leB 4 number := by
  unfold pageL restL
  exact cut_at (by rw [leB_len]; rfl) (by rw [leB_len]; rfl)
theorem page_len (number kind : Int) (body : List Int) : cutB (pageL number kind body) 9 2 = leB 2 (body.length : Int) := by
  have e : pageL number kind body = (leB 4 (moreP 0 (restL number kind body)) ++ leB 4 number ++ leB 1 kind) ++ (leB 2 (body.length : Int) ++ (body ++ List.replicate (4085 - body.length) 0)) := by
    conv => lhs; unfold pageL; rhs; unfold restL
    simp only [List.append_assoc]
  rw [e]
  exact cut_at (by simp only [List.length_append, leB_len]; rfl) (by rw [leB_len]; rfl)
theorem page_body (number kind : Int) (body : List Int) : (pageL number kind body).drop 11 = body ++ List.replicate (4085 - body.length) 0 := by
  have e : pageL number kind body = (leB 4 (moreP 0 (restL number kind body)) ++ leB 4 number ++ leB 1 kind ++ leB 2 (body.length : Int)) ++ (body ++ List.replicate (4085 - body.length) 0) := by
    conv => lhs; unfold pageL; rhs; unfold restL
    simp only [List.append_assoc]
  rw [e]
  exact List.drop_left' (by simp only [List.length_append, leB_len])
theorem page_kind (number kind : Int) (body : List Int) : kindG (pageL number kind body) = kind % 256 := by
  have e : pageL number kind body = (leB 4 (moreP 0 (restL number kind body)) ++ leB 4 number) ++ (kind % 256 :: (leB 2 (body.length : Int) ++ (body ++ List.replicate (4085 - body.length) 0))) := by
    conv => lhs; unfold pageL; rhs; unfold restL
    simp only [List.append_assoc]
    rfl
  unfold kindG
  rw [e, List.getD_eq_getElem?_getD, List.getElem?_append_right (by simp only [List.length_append, leB_len]; omega)]
  simp only [List.length_append, leB_len]
  rfl
theorem valB_of (k : Nat) {n : Int} (h0 : 0 ≤ n) (hn : n < 256 ^ k) : valB (leB k n) = n := by rw [valB_leB k n h0]; exact Int.emod_eq_of_lt h0 hn
theorem all_zeros (n : Nat) : (List.replicate n (0 : Int)).all (· == 0) = true := List.all_eq_true.2 fun x hx => by rw [List.eq_of_mem_replicate hx]; rfl
theorem open_made {number kind : Int} {body : List Int} (h : okG number kind body.length = true) (hB : isB body) (m : Int) :
    openE (pageL number kind body) m = (if m = number then 0 else 121) ∧ openK (pageL number kind body) number = kind ∧ openL (pageL number kind body) number = body := by
  obtain ⟨h1, h2, h3, h4, h5⟩ := okG_yes h
  have hs := moreP_rng (s := 0) (restL_byte (number := number) (kind := kind) hB)
  have p256 : (256 : Int) ^ 4 = 4294967296 := by decide
  have p2 : (256 : Int) ^ 2 = 65536 := by decide
  have e1 : valB (cutB (pageL number kind body) 0 4) = moreP 0 (restL number kind body) := by rw [page_sum]; exact valB_of 4 hs.1 (by omega)
  have e2 : valB (cutB (pageL number kind body) 4 4) = number := by rw [page_number]; exact valB_of 4 h1 (by omega)
  have e3 : lenG (pageL number kind body) = body.length := by unfold lenG; rw [page_len]; exact valB_of 2 (by omega) (by omega)
  have e4 : kindG (pageL number kind body) = kind := by rw [page_kind]; omega
  have hd : (pageL number kind body).drop (11 + body.length) = List.replicate (4085 - body.length) 0 := by
    rw [← List.drop_drop, page_body]
    exact List.drop_left' rfl
  have e5 : clean (pageL number kind body) = true := by unfold clean; rw [e3, Int.toNat_natCast, hd]; exact all_zeros _
  have hE : ∀ m, openE (pageL number kind body) m = if m = number then 0 else 121 := fun m => by
    unfold openE
    rw [if_pos (pageL_len h5), page_rest, e1, if_pos rfl, e2, e3, e4, e5]
    by_cases hm : m = number
    · rw [if_pos hm.symm, if_pos hm, if_neg (by omega), if_pos rfl]
    · rw [if_neg (fun e => hm e.symm), if_neg hm]
  have h0 : openE (pageL number kind body) number = 0 := by rw [hE, if_pos rfl]
  refine ⟨hE m, ?_, ?_⟩
  · unfold openK; rw [if_pos h0, e4]
  · unfold openL; rw [if_pos h0, page_body, e3, Int.toNat_natCast]; exact List.take_left' rfl
/-- Turned bytes are told. -/
theorem open_turned {l d : List Int} {number : Int} {k i : Nat} {b : Bool} (h0 : openE l number = 0) (hB : isB l) (h : Turned l k i d b) (h4 : i ≤ 4) (hk : 4 ≤ k ∨ k + i ≤ 4) :
    (openE (l.take k ++ (d ++ l.drop (k + i))) number == 0) = b := by
  have hl : l.length = 4096 := by
    unfold openE at h0
    split at h0
    · assumption
    · exact absurd h0 (by decide)
  have hll : (l.take k ++ (d ++ l.drop (k + i))).length = 4096 := by rw [List.length_append, List.length_append, h.len, List.length_take, List.length_drop]; have := h.fits; omega
  have hsum : moreP 0 (l.drop 4) = valB (cutB l 0 4) := by
    unfold openE at h0
    rw [if_pos hl] at h0
    split at h0
    · assumption
    · exact absurd h0 (by decide)
  have hpart : l = l.take k ++ ((l.drop k).take i ++ l.drop (k + i)) := by
    rw [show l.drop (k + i) = (l.drop k).drop i by rw [List.drop_drop], List.take_append_drop, List.take_append_drop]
  by_cases hd : d = (l.drop k).take i
  · have hb : b = true := by rw [h.same_]; exact decide_eq_true hd
    rw [hd, ← hpart, h0, hb]
    rfl
  · have hb : b = false := by rw [h.same_]; exact decide_eq_false hd
    have hf := h.fits
    have hlen := h.len
    rw [hb]
    have key : moreP 0 ((l.take k ++ (d ++ l.drop (k + i))).drop 4) ≠ valB (cutB (l.take k ++ (d ++ l.drop (k + i))) 0 4) := by
      rcases hk with hk | hk
      · have e1 : (l.take k ++ (d ++ l.drop (k + i))).drop 4 = (l.drop 4).take (k - 4) ++ (d ++ l.drop (k + i)) := by
          rw [List.drop_append_of_le_length (by rw [List.length_take]; omega), List.drop_take]
        have e2 : l.drop 4 = (l.drop 4).take (k - 4) ++ ((l.drop k).take i ++ l.drop (k + i)) := by
          have := congrArg (List.drop 4) hpart
          rw [List.drop_append_of_le_length (by rw [List.length_take]; omega), List.drop_take] at this
          exact this
        have e3 : cutB (l.take k ++ (d ++ l.drop (k + i))) 0 4 = cutB l 0 4 := by
          unfold cutB
          show ((l.take k ++ (d ++ l.drop (k + i))).drop 0).take 4 = (l.drop 0).take 4
          rw [List.drop_zero, List.drop_zero, List.take_append_of_le_length (by rw [List.length_take]; omega), List.take_take, show min 4 k = 4 by omega]
        rw [e1, e3, ← hsum]
        intro hc
        have ht := (tells_is (a := (l.drop 4).take (k - 4)) (c := l.drop (k + i)) h.byte ((hB.drop k).take' i) (by rw [hlen, List.length_take, List.length_drop]; omega) (by omega)).1
        rw [← e2] at ht
        exact hd (ht hc)
      · have hlk : (l.take k).length = k := by rw [List.length_take]; omega
        have e1 : (l.take k ++ (d ++ l.drop (k + i))).drop 4 = l.drop 4 := by
          have hkd : (l.take k ++ d).length = k + i := by rw [List.length_append, hlk, hlen]
          rw [← List.append_assoc, List.drop_append, List.drop_eq_nil_of_le (by omega), List.nil_append, hkd, List.drop_drop, show k + i + (4 - (k + i)) = 4 by omega]
        have e2 : ∀ q : List Int, q.length = i → cutB (l.take k ++ (q ++ l.drop (k + i))) 0 4 = l.take k ++ (q ++ (l.drop (k + i)).take (4 - (k + i))) := fun q hq => by
          have hkd : (l.take k ++ q).length = k + i := by rw [List.length_append, hlk, hq]
          show ((l.take k ++ (q ++ l.drop (k + i))).drop 0).take 4 = _
          rw [List.drop_zero, ← List.append_assoc, List.take_append, List.take_of_length_le (by omega), hkd, List.append_assoc]
        have hpl : ((l.drop k).take i).length = i := by rw [List.length_take, List.length_drop]; omega
        have e3 : cutB l 0 4 = l.take k ++ ((l.drop k).take i ++ (l.drop (k + i)).take (4 - (k + i))) := by
          rw [← e2 _ hpl, ← hpart]
        rw [e1, hsum]
        intro hc
        have b1 : isB (cutB l 0 4) := (hB.drop _).take' _
        have b2 : isB (cutB (l.take k ++ (d ++ l.drop (k + i))) 0 4) := by
          rw [e2 d hlen]
          exact (hB.take' k).append (h.byte.append ((hB.drop _).take' _))
        have l1 : (cutB l 0 4).length = 4 := by
          show ((l.drop 0).take 4).length = 4
          rw [List.drop_zero, List.length_take]; omega
        have l2 : (cutB (l.take k ++ (d ++ l.drop (k + i))) 0 4).length = 4 := by
          show (((l.take k ++ (d ++ l.drop (k + i))).drop 0).take 4).length = 4
          rw [List.drop_zero, List.length_take]; omega
        have q1 := leB_valB _ b1
        have q2 := leB_valB _ b2
        rw [l1] at q1
        rw [l2] at q2
        have q : cutB l 0 4 = cutB (l.take k ++ (d ++ l.drop (k + i))) 0 4 := by rw [← q1, ← q2, hc]
        rw [e3, e2 d hlen] at q
        exact hd (List.append_inj (List.append_cancel_left q) (by rw [hpl, hlen])).1.symm
    unfold openE
    rw [if_pos hll, if_neg key]
    rfl
end Go.Proofs.YtonjapphhbhcpaaDoor
