/- What the document says of layer 2, as plain functions on bytes: the reader with its faults, the writer, each the other's inverse, and what the laws follow from. No statement is proved here. -/
import Derived.Test.YtjfgmcmnpekahaaDoorIsB
import Derived.Test.YtjfgmcmnpekahaaDoorRight2
import Derived.Lib.ItoaNum
import Derived.Lib.ItoaMem
import Derived.Lib.IndexLaws
namespace Go.Proofs.YtjfgmcmnpekahaaDoor
open Go.RowKit
set_option maxRecDepth 100000

/-- A number of so many bytes, the lowest one first. -/
def num : List Int → Int
  | [] => 0
  | b :: r => b + 256 * num r
theorem num_range : ∀ {l : List Int}, isB l → 0 ≤ num l ∧ num l < 256 ^ l.length := by
  intro l
  induction l with
  | nil => intro _; simp [num]
  | cons b r ih =>
    intro h
    have hb := h b (by simp)
    obtain ⟨h1, h2⟩ := ih fun x hx => h x (by simp [hx])
    rw [num, List.length_cons, Int.pow_succ]
    omega
theorem num_leB : ∀ (k : Nat) (n : Int), 0 ≤ n → n < 256 ^ k → num (leB k n) = n := by
  intro k
  induction k with
  | zero => intro n h0 h1; simp at h1; simp [leB, num]; omega
  | succ k ih =>
    intro n h0 h1
    rw [leB, num, ih (n / 256) (by omega) (by rw [Int.pow_succ] at h1; omega)]
    omega
theorem leB_num : ∀ (l : List Int), isB l → leB l.length (num l) = l := by
  intro l
  induction l with
  | nil => intro _; rfl
  | cons b r ih =>
    intro h
    have hb := h b (by simp)
    rw [num, List.length_cons, leB, show (b + 256 * num r) % 256 = b by omega, show (b + 256 * num r) / 256 = num r by omega, ih fun x hx => h x (by simp [hx])]
/-- The kind that a byte tells; 0: none. -/
def kindOf (c : Int) : Int :=
  if c = 255 then 1 else if c = 10 then 2 else if c = 18 then 3 else if c = 2 then 4 else if c = 3 then 5 else if c = 4 then 6 else if c = 5 then 7 else if c = 7 then 8 else if c = 8 then 9 else if c = 9 then 10 else if c = 127 then 11 else 0
theorem kindOf_range (c : Int) : 0 ≤ kindOf c ∧ kindOf c ≤ 11 := by
  unfold kindOf
  repeat' split
  all_goals omega
/-- What stands ahead of the first byte 0. -/
def toZ : List Int → Option (List Int)
  | [] => none
  | b :: r => if b = 0 then some [] else (toZ r).map (b :: ·)
theorem toZ_some : ∀ {R l : List Int}, toZ R = some l → R = l ++ 0 :: R.drop (l.length + 1) ∧ (∀ b ∈ l, b ≠ 0) ∧ l.length < R.length := by
  intro R
  induction R with
  | nil => intro l h; cases h
  | cons b r ih =>
    intro l h
    rw [toZ] at h
    by_cases h0 : b = 0
    · rw [if_pos h0] at h
      injection h with h
      subst h
      simp [h0]
    · rw [if_neg h0] at h
      obtain ⟨l', h1, rfl⟩ := Option.map_eq_some_iff.1 h
      obtain ⟨h2, h3, h4⟩ := ih h1
      refine ⟨?_, ?_, by simp; omega⟩
      · simp only [List.cons_append, List.length_cons, List.drop_succ_cons]
        rw [← h2]
      · intro x hx
        rcases List.mem_cons.1 hx with rfl | hx
        · exact h0
        · exact h3 x hx
theorem toZ_of : ∀ (l Q : List Int), (∀ b ∈ l, b ≠ 0) → toZ (l ++ 0 :: Q) = some l := by
  intro l
  induction l with
  | nil => intro Q _; simp [toZ]
  | cons b r ih =>
    intro Q h
    rw [List.cons_append, toZ, if_neg (h b (by simp)), ih Q fun x hx => h x (by simp [hx])]
    rfl
/-- A list's names. -/
def itoaB (n : Nat) : ByteArray := ⟨(Lib.itoa n).toArray⟩
/-- May a field be named so, behind those? -/
def mayName (list : Bool) (ahead : List (ByteArray × V)) (s : ByteArray) : Bool :=
  if list then s.toList == (itoaB ahead.length).toList else nameOk s && !(ahead.map fun f => f.1.data.toList).contains s.data.toList
def textOk (s : ByteArray) : Bool := Lib.validD s.data.toList
inductive Res (α : Type) where
  | bad (c at_ : Int)
  | ok (a : α) (m : Nat)
mutual
/-- A document's fields (or a list's, with their names), so deep, out of R, which begins at that place; with how many bytes they are. -/
def docF : Nat → Bool → Int → List Int → Int → Res (List (ByteArray × V))
  | 0, _, _, _, _ => .bad 0 0
  | n + 1, list, deep, R, p =>
    if 20 < deep then .bad 25 p else
    if R.length < 4 then .bad 20 p else
    if num (R.take 4) < 5 ∨ 65536 < num (R.take 4) then .bad 21 p else
    if (R.length : Int) < num (R.take 4) then .bad 20 p else
    match fldF n list deep [] ((R.drop 4).take ((num (R.take 4)).toNat - 5)) (R.getD ((num (R.take 4)).toNat - 1) 0) (p + 4) with
    | .bad c q => .bad c q
    | .ok d _ => .ok d (num (R.take 4)).toNat
/-- The fields behind those that were ahead; z: the byte behind them. -/
def fldF : Nat → Bool → Int → List (ByteArray × V) → List Int → Int → Int → Res (List (ByteArray × V))
  | 0, _, _, _, _, _, _ => .bad 0 0
  | _ + 1, _, _, ahead, [], z, p => if z = 0 then .ok ahead 0 else .bad 26 p
  | n + 1, list, deep, ahead, c :: J, z, p =>
    if c = 0 then .bad 26 p else
    if kindOf c = 0 then .bad 22 p else
    match toZ J with
    | none => .bad 23 (p + 1)
    | some l =>
      if mayName list ahead (strOfNums l) then
        match valF n (kindOf c) deep (J.drop (l.length + 1)) (p + 1 + l.length + 1) with
        | .bad c' q => .bad c' q
        | .ok v m => fldF n list deep (ahead ++ [(strOfNums l, v)]) ((J.drop (l.length + 1)).drop m) z (p + 1 + l.length + 1 + m)
      else .bad 23 (p + 1)
/-- A value of that kind. -/
def valF : Nat → Int → Int → List Int → Int → Res V
  | 0, _, _, _, _ => .bad 0 0
  | n + 1, k, deep, R, p =>
    if k = 5 then
      match docF n false (deep + 1) R p with
      | .bad c q => .bad c q
      | .ok d m => .ok (.mk 5 0 ⟨#[]⟩ [] d) m
    else if k = 6 then
      match docF n true (deep + 1) R p with
      | .bad c q => .bad c q
      | .ok d m => .ok (.mk 6 0 ⟨#[]⟩ (d.map (·.2)) []) m
    else if k = 3 ∨ k = 10 then
      if R.length < 8 then .bad 20 p else .ok (.mk k (wrap64 (num (R.take 8))) ⟨#[]⟩ [] []) 8
    else if k = 4 then
      if R.length < 4 then .bad 20 p else
      if num (R.take 4) = 0 then .bad 21 p else
      if (R.length : Int) < 4 + num (R.take 4) then .bad 20 p else
      if R.getD (3 + (num (R.take 4)).toNat) 0 = 0 ∧ textOk (strOfNums ((R.drop 4).take ((num (R.take 4)).toNat - 1))) = true then
        .ok (.mk 4 0 (strOfNums ((R.drop 4).take ((num (R.take 4)).toNat - 1))) [] []) (4 + (num (R.take 4)).toNat)
      else .bad 24 (p + 4)
    else if k = 7 then
      if R.length < 5 then .bad 20 p else
      if (R.length : Int) < 5 + num (R.take 4) then .bad 20 p else
      if R.getD 4 0 = 0 then .ok (.mk 7 0 (strOfNums ((R.drop 5).take (num (R.take 4)).toNat)) [] []) (5 + (num (R.take 4)).toNat) else .bad 24 (p + 4)
    else if k = 8 then
      if R.length < 12 then .bad 20 p else .ok (.mk 8 0 (strOfNums (R.take 12)) [] []) 12
    else if k = 9 then
      if R.length < 1 then .bad 20 p else
      if 1 < R.getD 0 0 then .bad 24 p else .ok (.mk 9 (R.getD 0 0) ⟨#[]⟩ [] []) 1
    else .ok (.mk k 0 ⟨#[]⟩ [] []) 0
end
/-- Read: the document at a place, and where it ends. -/
def readF (n : Nat) (bs : List Int) (at_ : Int) : Res V :=
  if at_ < 0 ∨ (bs.length : Int) < at_ then .bad 1 (-1) else
  match docF n false 1 (bs.drop at_.toNat) at_ with
  | .bad c q => .bad c q
  | .ok d m => .ok (.mk 5 0 ⟨#[]⟩ [] d) (at_.toNat + m)
/-- Decode. -/
def decF (n : Nat) (bs : List Int) : Res V :=
  if 65536 < bs.length then .bad 2 (-1) else
  match readF n bs 0 with
  | .bad c q => .bad c q
  | .ok v m => if m < bs.length then .bad 26 m else .ok v m

/-- The byte that tells a value's kind. -/
def kByte : V → Int
  | .mk k _ _ _ _ => kindB.getD k.toNat 0
mutual
/-- A value's bytes. -/
def encV : V → List Int
  | .mk k n s l d =>
    if k = 3 ∨ k = 10 then leB 8 n else
    if k = 4 then leB 4 (s.size + 1) ++ bsI s ++ [0] else
    if k = 7 then leB 4 s.size ++ [0] ++ bsI s else
    if k = 8 then bsI s else
    if k = 9 then [n] else
    if k = 5 then leB 4 ((encD d).length + 5) ++ encD d ++ [0] else
    if k = 6 then leB 4 ((encL 0 l).length + 5) ++ encL 0 l ++ [0] else []
def encL (i : Nat) : List V → List Int
  | [] => []
  | x :: r => kByte x :: (bsI (itoaB i) ++ 0 :: encV x) ++ encL (i + 1) r
def encD : List (ByteArray × V) → List Int
  | [] => []
  | (s, x) :: r => kByte x :: (bsI s ++ 0 :: encV x) ++ encD r
end
end Go.Proofs.YtjfgmcmnpekahaaDoor
namespace Go.Proofs.YtjfgmcmnpekahaaDoor
open Go.RowKit
set_option maxRecDepth 100000

theorem isB_take {l : List Int} (h : isB l) (n : Nat) : isB (l.take n) := fun b hb => h b (List.mem_of_mem_take hb)
theorem isB_dropn {l : List Int} (h : isB l) (n : Nat) : isB (l.drop n) := fun b hb => h b (List.mem_of_mem_drop hb)
theorem bsI_nums {l : List Int} (h : isB l) : bsI (strOfNums l) = l := by
  unfold bsI strOfNums
  simp only [List.map_map]
  conv => rhs; rw [← List.map_id l]
  apply List.map_congr_left
  intro x hx
  have := h x hx
  show ((UInt8.ofNat x.toNat).toNat : Int) = x
  rw [UInt8.toNat_ofNat_of_lt' (by simp [UInt8.size]; omega)]
  omega
theorem kindB_of {c : Int} (h : kindOf c ≠ 0) : kindB.getD (kindOf c).toNat 0 = c := by
  unfold kindOf at h ⊢
  repeat' split
  all_goals first | (rename_i e; subst e; rfl) | (exfalso; revert h; simp_all)
theorem leB_take {R : List Int} (h : isB R) {k : Nat} (hk : k ≤ R.length) : leB k (num (R.take k)) = R.take k := by
  have := leB_num (R.take k) (isB_take h k)
  rwa [List.length_take, Nat.min_eq_left hk] at this
theorem leB_plus (k : Nat) (n m : Int) : leB k (n + 256 ^ k * m) = leB k n := by
  induction k generalizing n with
  | zero => rfl
  | succ k ih =>
    have e : n + 256 ^ (k + 1) * m = n + 256 * (256 ^ k * m) := by rw [Int.pow_succ]; simp only [Int.mul_comm, Int.mul_left_comm]
    have h1 : (n + 256 * (256 ^ k * m)) % 256 = n % 256 := by omega
    have h2 : (n + 256 * (256 ^ k * m)) / 256 = n / 256 + 256 ^ k * m := by omega
    rw [e, leB, leB, h1, h2, ih]
theorem leB_wrap (n : Int) : leB 8 (wrap64 n) = leB 8 n := by
  have e : wrap64 n = n + 256 ^ 8 * -((n + 9223372036854775808) / 18446744073709551616) := by unfold wrap64; omega
  rw [e, leB_plus]
theorem bsI_len' (s : ByteArray) : (bsI s).length = s.size := by simp [bsI]
theorem take_tail {R : List Int} {a N : Nat} (h : a + N + 1 ≤ R.length) (hz : R.getD (a + N) 0 = 0) : R.take (a + N + 1) = R.take a ++ ((R.drop a).take N ++ [0]) := by
  rw [show a + N + 1 = a + (N + 1) by omega, List.take_add, List.take_add_one, List.getElem?_drop]
  congr 2
  rw [List.getD_eq_getElem?_getD] at hz
  cases hg : R[a + N]? with
  | none => rw [List.getElem?_eq_none_iff] at hg; omega
  | some x => rw [hg] at hz; simp at hz; rw [hz]; rfl
def kindN : V → Int
  | .mk k _ _ _ _ => k
/-- Names that are places, from i on. -/
def placed (i : Nat) : List (ByteArray × V) → Prop
  | [] => True
  | (s, _) :: r => s.toList = (itoaB i).toList ∧ placed (i + 1) r
theorem bytes_of_toList {s s' : ByteArray} (h : s.toList = s'.toList) : s = s' := by
  rw [Lib.toList_data, Lib.toList_data] at h
  obtain ⟨s⟩ := s
  obtain ⟨s'⟩ := s'
  simp at h
  rw [h]
theorem encD_placed : ∀ (d : List (ByteArray × V)) (i : Nat), placed i d → encL i (d.map (·.2)) = encD d := by
  intro d
  induction d with
  | nil => intro i _; simp [encL, encD]
  | cons f r ih =>
    obtain ⟨s, x⟩ := f
    intro i h
    rw [List.map_cons, encL, encD, ih (i + 1) h.2, bytes_of_toList h.1]
/-- What a value's reading says. -/
def SoundV (n : Nat) : Prop := ∀ (k deep : Int) (R : List Int) (p : Int) (v : V) (m : Nat), isB R → 1 ≤ k → k ≤ 11 → valF n k deep R p = .ok v m → kindN v = k ∧ m ≤ R.length ∧ R.take m = encV v
def SoundF (n : Nat) : Prop := ∀ (list : Bool) (deep : Int) (ahead : List (ByteArray × V)) (I : List Int) (z p : Int) (d : List (ByteArray × V)) (m : Nat), isB I → fldF n list deep ahead I z p = .ok d m →
  z = 0 ∧ ∃ e, d = ahead ++ e ∧ I = encD e ∧ (list = true → placed ahead.length e)
def SoundD (n : Nat) : Prop := ∀ (list : Bool) (deep : Int) (R : List Int) (p : Int) (d : List (ByteArray × V)) (m : Nat), isB R → docF n list deep R p = .ok d m →
  m ≤ R.length ∧ R.take m = leB 4 ((encD d).length + 5) ++ encD d ++ [0] ∧ (list = true → placed 0 d) ∧ m = (encD d).length + 5 ∧ m ≤ 65536
theorem soundD_step {n : Nat} (h : SoundF n) : SoundD (n + 1) := by
  intro list deep R p d m hB hd
  rw [docF] at hd
  split at hd
  · cases hd
  split at hd
  · cases hd
  rename_i h4
  split at hd
  · cases hd
  rename_i h5
  split at hd
  · cases hd
  rename_i hR
  split at hd
  · cases hd
  rename_i d' m' hf
  injection hd with h1 h2
  subst h1
  obtain ⟨N, hN⟩ : ∃ N : Nat, num (R.take 4) = N := ⟨(num (R.take 4)).toNat, by omega⟩
  rw [hN] at hf h2 hR h5
  simp only [Int.toNat_natCast] at hf h2
  obtain ⟨hz, e, he, hI, hp⟩ := h list deep [] _ _ _ _ _ (isB_take (isB_dropn hB 4) _) hf
  rw [List.nil_append] at he
  subst he
  have hlen : (encD d').length = N - 5 := by rw [← hI, List.length_take, List.length_drop]; omega
  have hl4 : leB 4 ((encD d').length + 5) = R.take 4 := by
    rw [← leB_take hB (by omega : 4 ≤ R.length), hN, hlen]
    congr 1
    omega
  refine ⟨by omega, ?_, fun hl => hp hl, by omega, by omega⟩
  rw [hl4, ← hI, ← h2]
  have e1 : R.take N = R.take 4 ++ ((R.drop 4).take (N - 4)) := by
    rw [← List.take_add]
    congr 1
    omega
  have e2 : (R.drop 4).take (N - 4) = (R.drop 4).take (N - 5) ++ [0] := by
    rw [show N - 4 = (N - 5) + 1 by omega, List.take_add_one]
    congr 1
    rw [List.getElem?_drop, show 4 + (N - 5) = N - 1 by omega]
    rw [List.getD_eq_getElem?_getD] at hz
    cases hg : R[N - 1]? with
    | none => rw [List.getElem?_eq_none_iff] at hg; omega
    | some x => rw [hg] at hz; simp at hz; rw [hz]; rfl
  rw [e1, e2, List.append_assoc]
theorem soundF_step {n : Nat} (hv : SoundV n) (hf : SoundF n) : SoundF (n + 1) := by
  intro list deep ahead I z p d m hB hd
  cases I with
  | nil =>
    rw [fldF] at hd
    split at hd
    · rename_i hz
      injection hd with h1 _
      exact ⟨hz, [], by simp [h1], by simp [encD], fun _ => trivial⟩
    · cases hd
  | cons c J =>
    rw [fldF] at hd
    split at hd
    · cases hd
    split at hd
    · cases hd
    rename_i hk
    have hJ : isB J := fun b hb => hB b (by simp [hb])
    split at hd
    · cases hd
    rename_i l hl
    obtain ⟨z1, z2, z3⟩ := toZ_some hl
    split at hd
    · rename_i hname
      split at hd
      · cases hd
      · rename_i v m' hval
        have hr := kindOf_range c
        obtain ⟨v1, v2, v3⟩ := hv (kindOf c) deep _ _ v m' (isB_dropn hJ _) (by omega) (by omega) hval
        obtain ⟨f1, e, rfl, f3, f4⟩ := hf list deep _ _ _ _ _ _ (isB_dropn (isB_dropn hJ _) _) hd
        refine ⟨f1, (strOfNums l, v) :: e, by simp, ?_, fun hlist => ?_⟩
        · have hBl : isB l := fun b hb => hJ b (by rw [z1]; simp [hb])
          rw [encD, bsI_nums hBl]
          have hkk : kByte v = c := by
            rw [← kindB_of hk, ← v1]
            cases v
            rfl
          rw [hkk, ← v3, ← f3]
          rw [List.cons_append, List.append_assoc, List.cons_append, List.take_append_drop, ← z1]
        · refine ⟨?_, ?_⟩
          · rw [hlist] at hname
            unfold mayName at hname
            simpa using hname
          · have := f4 hlist
            rwa [List.length_append] at this
    · cases hd
theorem soundV_step {n : Nat} (h : SoundD n) : SoundV (n + 1) := by
  intro k deep R p v m hB h1 h11 hd
  rw [valF] at hd
  split at hd
  · rename_i hk
    subst hk
    split at hd
    · cases hd
    · rename_i d m' hdoc
      injection hd with e1 e2
      subst e1 e2
      obtain ⟨a1, a2, -, -⟩ := h _ _ _ _ _ _ hB hdoc
      exact ⟨rfl, a1, by rw [a2, encV]; rfl⟩
  split at hd
  · rename_i hk
    subst hk
    split at hd
    · cases hd
    · rename_i d m' hdoc
      injection hd with e1 e2
      subst e1 e2
      obtain ⟨a1, a2, a3, -⟩ := h _ _ _ _ _ _ hB hdoc
      refine ⟨rfl, a1, ?_⟩
      rw [a2, encV]
      simp only [Int.reduceEq, or_self, if_false, if_true]
      rw [encD_placed _ _ (a3 rfl)]
  split at hd
  · rename_i hk
    split at hd
    · cases hd
    rename_i hl
    injection hd with e1 e2
    subst e1 e2
    refine ⟨rfl, by omega, ?_⟩
    rw [encV, if_pos hk]
    have := leB_take hB (by omega : 8 ≤ R.length)
    rw [leB_wrap, this]
  split at hd
  · rename_i hk
    subst hk
    split at hd
    · cases hd
    rename_i h4
    split at hd
    · cases hd
    rename_i h0
    split at hd
    · cases hd
    rename_i hl
    split at hd
    · rename_i hz
      injection hd with e1 e2
      subst e1
      obtain ⟨N, hN⟩ : ∃ N : Nat, num (R.take 4) = N := ⟨(num (R.take 4)).toNat, by have := (num_range (isB_take hB 4)).1; omega⟩
      rw [hN] at e2 h0 hl hz
      simp only [Int.toNat_natCast] at e2 hz
      subst e2
      have hBs : isB ((R.drop 4).take (N - 1)) := isB_take (isB_dropn hB 4) _
      have hsz : (strOfNums ((R.drop 4).take (N - 1))).size = N - 1 := by
        rw [← bsI_len', bsI_nums hBs, List.length_take, List.length_drop]
        omega
      refine ⟨rfl, by omega, ?_⟩
      rw [hN]
      simp only [Int.toNat_natCast]
      rw [encV]
      simp only [Int.reduceEq, or_self, if_false, if_true]
      rw [hsz, bsI_nums hBs, show (((N - 1 : Nat) : Int) + 1) = N by omega, ← hN, leB_take hB (by omega)]
      have hz0 := hz.1
      rw [show 3 + N = 4 + (N - 1) by omega] at hz0
      have := take_tail (R := R) (a := 4) (N := N - 1) (by omega) hz0
      rw [show 4 + (N - 1) + 1 = 4 + N by omega] at this
      rw [this, List.append_assoc]
    · cases hd
  split at hd
  · rename_i hk
    subst hk
    split at hd
    · cases hd
    rename_i h5
    split at hd
    · cases hd
    rename_i hl
    split at hd
    · rename_i hz
      injection hd with e1 e2
      subst e1
      obtain ⟨N, hN⟩ : ∃ N : Nat, num (R.take 4) = N := ⟨(num (R.take 4)).toNat, by have := (num_range (isB_take hB 4)).1; omega⟩
      rw [hN] at e2 hl
      simp only [Int.toNat_natCast] at e2
      subst e2
      have hBs : isB ((R.drop 5).take N) := isB_take (isB_dropn hB 5) _
      have hsz : (strOfNums ((R.drop 5).take N)).size = N := by
        rw [← bsI_len', bsI_nums hBs, List.length_take, List.length_drop]
        omega
      refine ⟨rfl, by omega, ?_⟩
      rw [hN]
      simp only [Int.toNat_natCast]
      rw [encV]
      simp only [Int.reduceEq, or_self, if_false, if_true]
      rw [hsz, bsI_nums hBs, ← hN, leB_take hB (by omega)]
      rw [List.take_add, show (5 : Nat) = 4 + 1 by rfl, List.take_add_one]
      congr 2
      cases hg : R[4]? with
      | none => rw [List.getElem?_eq_none_iff] at hg; omega
      | some x => rw [List.getD_eq_getElem?_getD, hg] at hz; simp at hz; rw [hz]; rfl
    · cases hd
  split at hd
  · rename_i hk
    subst hk
    split at hd
    · cases hd
    rename_i hl
    injection hd with e1 e2
    subst e1 e2
    refine ⟨rfl, by omega, ?_⟩
    rw [encV]
    simp only [Int.reduceEq, or_self, if_false, if_true]
    rw [bsI_nums (isB_take hB 12)]
  split at hd
  · rename_i hk
    subst hk
    split at hd
    · cases hd
    rename_i hl
    split at hd
    · cases hd
    injection hd with e1 e2
    subst e1 e2
    refine ⟨rfl, by omega, ?_⟩
    rw [encV]
    simp only [Int.reduceEq, or_self, if_false, if_true]
    cases R with
    | nil => simp at hl
    | cons x r => rfl
  · rename_i k5 k6 k3 k4 k7 k8 k9
    injection hd with e1 e2
    subst e1 e2
    refine ⟨rfl, by omega, ?_⟩
    rw [encV, if_neg k3, if_neg k4, if_neg k7, if_neg k8, if_neg k9, if_neg k5, if_neg k6]
    rfl
theorem sound_all : ∀ n : Nat, SoundD n ∧ SoundF n ∧ SoundV n := by
  intro n
  induction n with
  | zero =>
    refine ⟨fun list deep R p d m _ h => ?_, fun list deep ahead I z p d m _ h => ?_, fun k deep R p v m _ _ _ h => ?_⟩
    · rw [docF] at h; cases h
    · rw [fldF] at h; cases h
    · rw [valF] at h; cases h
  | succ n ih => exact ⟨soundD_step ih.2.1, soundF_step ih.2.2 ih.2.1, soundV_step ih.1⟩
end Go.Proofs.YtjfgmcmnpekahaaDoor
namespace Go.Proofs.YtjfgmcmnpekahaaDoor
open Go.RowKit
set_option maxRecDepth 100000

mutual
/-- How many steps a value's reading takes at most. -/
def stepsV : V → Nat
  | .mk _ _ _ l d => 3 + stepsL l + stepsD d
def stepsL : List V → Nat
  | [] => 0
  | x :: r => 1 + stepsV x + stepsL r
def stepsD : List (ByteArray × V) → Nat
  | [] => 0
  | (_, x) :: r => 1 + stepsV x + stepsD r
end
theorem nums_bsI (s : ByteArray) : strOfNums (bsI s) = s := by
  obtain ⟨⟨l⟩⟩ := s
  unfold strOfNums bsI
  simp only [List.map_map]
  congr 2
  conv => rhs; rw [← List.map_id l]
  apply List.map_congr_left
  intro x _
  show UInt8.ofNat ((x.toNat : Int)).toNat = x
  rw [Int.toNat_natCast]
  exact UInt8.ofNat_toNat
theorem name_bytes {s : ByteArray} (h : nameOk s = true) : ∀ b ∈ bsI s, b ≠ 0 := by
  unfold nameOk at h
  simp only [Bool.and_eq_true, decide_eq_true_eq] at h
  have hi := h.2.2.2
  have hm : Lib.indexByte s.data.toList 0 = -1 := by have := Lib.indexByte_ge s.data.toList 0; omega
  have hn := Lib.indexByte_none hm
  intro b hb
  unfold bsI at hb
  obtain ⟨c, hc, rfl⟩ := List.mem_map.1 hb
  obtain ⟨i, hi, e⟩ := List.mem_iff_getElem.1 hc
  intro h0
  refine hn i ?_
  rw [List.getElem?_eq_getElem hi, e]
  congr 1
  exact UInt8.toNat_inj.1 (by simpa using h0)
theorem dec_digits : ∀ (m n : Nat), n ≤ m → ∀ c ∈ Lib.decDigits n, 48 ≤ c.toNat := by
  intro m
  induction m with
  | zero => intro n h c hc; rw [Lib.decDigits, dif_pos (by omega)] at hc; rw [List.mem_singleton.1 hc, UInt8.toNat_ofNat_of_lt' (by simp [UInt8.size]; omega)]; omega
  | succ m ih =>
    intro n h c hc
    rw [Lib.decDigits] at hc
    split at hc
    · rw [List.mem_singleton.1 hc, UInt8.toNat_ofNat_of_lt' (by simp [UInt8.size]; omega)]; omega
    · rcases List.mem_append.1 hc with hc | hc
      · exact ih (n / 10) (by omega) c hc
      · rw [List.mem_singleton.1 hc, UInt8.toNat_ofNat_of_lt' (by simp [UInt8.size]; omega)]; omega
theorem itoa_bytes (n : Nat) : ∀ b ∈ bsI (itoaB n), b ≠ 0 := by
  intro b hb
  unfold bsI itoaB at hb
  obtain ⟨c, hc, rfl⟩ := List.mem_map.1 hb
  have hc : c ∈ Lib.itoa n := by simpa using hc
  rw [Lib.itoa_nonneg] at hc
  have := dec_digits n n (Nat.le_refl _) c hc
  omega
theorem kind_back {k : Int} (h1 : 1 ≤ k) (h2 : k ≤ 11) : kindB.getD k.toNat 0 ≠ 0 ∧ kindOf (kindB.getD k.toNat 0) = k := by
  obtain rfl | rfl | rfl | rfl | rfl | rfl | rfl | rfl | rfl | rfl | rfl : k = 1 ∨ k = 2 ∨ k = 3 ∨ k = 4 ∨ k = 5 ∨ k = 6 ∨ k = 7 ∨ k = 8 ∨ k = 9 ∨ k = 10 ∨ k = 11 := by omega
  all_goals exact ⟨by decide, by decide⟩
theorem num_four {n : Nat} (h : n ≤ 4294967295) (Q : List Int) : num ((leB 4 n ++ Q).take 4) = n := by
  have hl : (leB 4 n).length = 4 := leB_len 4 n
  rw [List.take_append_of_le_length (by omega), List.take_of_length_le (by omega), num_leB 4 n (by omega) (by rw [show (256 : Int) ^ 4 = 4294967296 by decide]; omega)]
theorem wrap_back {n : Int} (h : okInt n) (Q : List Int) : wrap64 (num ((leB 8 n ++ Q).take 8)) = n := by
  have hl : (leB 8 n).length = 8 := leB_len 8 n
  rw [List.take_append_of_le_length (by omega), List.take_of_length_le (by omega)]
  have e : leB 8 n = leB 8 (n % 18446744073709551616) := by
    have e1 : n = n % 18446744073709551616 + 256 ^ 8 * (n / 18446744073709551616) := by omega
    conv => lhs; rw [e1]
    rw [leB_plus]
  have h8 : (256 : Int) ^ 8 = 18446744073709551616 := by decide
  rw [e, num_leB 8 _ (by omega) (by omega)]
  unfold okInt at h
  unfold wrap64
  omega
theorem toList_nil {s : ByteArray} (h : (s.toList == []) = true) : s = ⟨#[]⟩ := by
  rw [Lib.toList_data] at h
  obtain ⟨⟨l⟩⟩ := s
  simp at h
  rw [h]
def CompV (v : V) : Prop := ∀ (n : Nat) (deep p : Int) (Q : List Int), stepsV v ≤ n → v.fit → rightV (deep + 1) v = 0 → (encV v).length ≤ 65536 → valF n (kindN v) deep (encV v ++ Q) p = .ok v (encV v).length
theorem comp_fields : ∀ (d : List (ByteArray × V)), (∀ f ∈ d, CompV f.2) → ∀ (n : Nat) (list : Bool) (deep p z : Int) (ahead : List (ByteArray × V)), stepsD d + 1 ≤ n → z = 0 → (∀ f ∈ d, f.2.fit ∧ rightV (deep + 1) f.2 = 0 ∧ (∀ b ∈ bsI f.1, b ≠ 0)) → (encD d).length ≤ 65536 →
    (∀ (e : List (ByteArray × V)) (f : ByteArray × V) (r : List (ByteArray × V)), d = e ++ f :: r → mayName list (ahead ++ e) f.1 = true) → fldF n list deep ahead (encD d) z p = .ok (ahead ++ d) 0 := by
  intro d
  induction d with
  | nil =>
    intro _ n list deep p z ahead hn hz _ _ _
    obtain ⟨n, rfl⟩ : ∃ m, n = m + 1 := ⟨n - 1, by omega⟩
    rw [encD, fldF, if_pos hz, List.append_nil]
  | cons f r ih =>
    obtain ⟨s, x⟩ := f
    intro hc n list deep p z ahead hn hz hr hl hm
    obtain ⟨n, rfl⟩ : ∃ m, n = m + 1 := ⟨n - 1, by omega⟩
    rw [stepsD] at hn
    obtain ⟨h1, h2, h3⟩ := hr (s, x) (by simp)
    obtain ⟨k, m, t, l, d'⟩ := x
    obtain ⟨⟨-, hfits⟩, -, -⟩ := right_parts h2
    obtain ⟨k1, k2, -, -⟩ := fits_cases hfits
    obtain ⟨kb1, kb2⟩ := kind_back k1 k2
    rw [encD] at hl ⊢
    rw [kByte, List.cons_append, List.append_assoc, List.cons_append, fldF, if_neg kb1, kb2, if_neg (by omega), toZ_of _ _ h3]
    simp only
    rw [nums_bsI, if_pos (by have := hm [] (s, _) r rfl; simpa using this)]
    have hdrop : (bsI s ++ 0 :: (encV (.mk k m t l d') ++ encD r)).drop ((bsI s).length + 1) = encV (.mk k m t l d') ++ encD r := by
      rw [show bsI s ++ 0 :: (encV (.mk k m t l d') ++ encD r) = (bsI s ++ [0]) ++ (encV (.mk k m t l d') ++ encD r) by simp]
      exact List.drop_left' (by simp)
    simp only [List.length_cons, List.length_append] at hl
    have hv : ∀ q : Int, valF n k deep (encV (.mk k m t l d') ++ encD r) q = .ok (.mk k m t l d') (encV (.mk k m t l d')).length := fun q => hc (s, .mk k m t l d') (by simp) n deep q (encD r) (show stepsV (V.mk k m t l d') ≤ n by omega) h1 h2 (show (encV (V.mk k m t l d')).length ≤ 65536 by omega)
    rw [hdrop, hv]
    simp only
    rw [List.drop_left, ih (fun f hf => hc f (by simp [hf])) n list deep _ z _ (by omega) hz (fun f hf => hr f (by simp [hf])) (by omega) ?_]
    · simp
    · intro e f r' he
      have := hm ((s, _) :: e) f r' (by rw [he]; rfl)
      simpa using this
theorem comp_doc {d : List (ByteArray × V)} (hd : ∀ f ∈ d, CompV f.2) {n : Nat} {list : Bool} {deep p : Int} {Q : List Int} (hn : stepsD d + 2 ≤ n) (hdeep : deep ≤ 20) (hr : ∀ f ∈ d, f.2.fit ∧ rightV (deep + 1) f.2 = 0 ∧ (∀ b ∈ bsI f.1, b ≠ 0)) (hl : (encD d).length + 5 ≤ 65536)
    (hm : ∀ (e : List (ByteArray × V)) (f : ByteArray × V) (r : List (ByteArray × V)), d = e ++ f :: r → mayName list e f.1 = true) :
    docF n list deep (leB 4 ((encD d).length + 5) ++ encD d ++ [0] ++ Q) p = .ok d ((encD d).length + 5) := by
  obtain ⟨n, rfl⟩ : ∃ m, n = m + 1 := ⟨n - 1, by omega⟩
  have hl4 : (leB 4 (((encD d).length + 5 : Nat) : Int)).length = 4 := leB_len _ _
  have e0 : leB 4 ((encD d).length + 5) ++ encD d ++ [0] ++ Q = leB 4 (((encD d).length + 5 : Nat) : Int) ++ (encD d ++ ([0] ++ Q)) := by simp
  have hnum := num_four (n := (encD d).length + 5) (by omega) (encD d ++ ([0] ++ Q))
  have hlen : (leB 4 (((encD d).length + 5 : Nat) : Int) ++ (encD d ++ ([0] ++ Q))).length = (encD d).length + 5 + Q.length := by rw [List.length_append, List.length_append, List.length_append, hl4]; simp; omega
  rw [e0, docF, if_neg (by omega), if_neg (by omega), hnum, if_neg (by omega), if_neg (by omega), Int.toNat_natCast, List.drop_left' hl4]
  have e1 : (encD d ++ ([0] ++ Q)).take ((encD d).length + 5 - 5) = encD d := by
    rw [List.take_append_of_le_length (by omega), List.take_of_length_le (by omega)]
  have e2 : (leB 4 (((encD d).length + 5 : Nat) : Int) ++ (encD d ++ ([0] ++ Q))).getD ((encD d).length + 5 - 1) 0 = 0 := by
    rw [List.getD_eq_getElem?_getD, List.getElem?_append_right (by omega), hl4, List.getElem?_append_right (by omega), show (encD d).length + 5 - 1 - 4 - (encD d).length = 0 by omega]
    rfl
  rw [e1, e2, comp_fields d hd n list deep _ 0 [] (by omega) rfl hr (by omega) (by simpa using hm)]
  rfl
theorem stepsD_map : ∀ (l : List V) (i : Nat), stepsD (l.mapIdx fun j x => (itoaB (i + j), x)) = stepsL l := by
  intro l
  induction l with
  | nil => intro i; rfl
  | cons x r ih =>
    intro i
    rw [List.mapIdx_cons, stepsD, stepsL, ← ih (i + 1)]
    congr 2
    congr 1
    funext j y
    rw [show i + (j + 1) = i + 1 + j by omega]
theorem encD_map : ∀ (l : List V) (i : Nat), encD (l.mapIdx fun j x => (itoaB (i + j), x)) = encL i l := by
  intro l
  induction l with
  | nil => intro i; simp [encL, encD]
  | cons x r ih =>
    intro i
    rw [List.mapIdx_cons, encD, encL, ← ih (i + 1), Nat.add_zero]
    congr 2
    congr 1
    funext j y
    rw [show i + (j + 1) = i + 1 + j by omega]
/-- Names that may be are those that a right document has. -/
theorem right_names {deep : Int} : ∀ (d : List (ByteArray × V)) (ahead : List (List UInt8)), rightD deep ahead d = 0 → ∀ (e : List (ByteArray × V)) (f : ByteArray × V) (r : List (ByteArray × V)), d = e ++ f :: r → nameOk f.1 = true ∧ (ahead ++ e.map fun g => g.1.data.toList).contains f.1.data.toList = false := by
  intro d
  induction d with
  | nil => intro ahead _ e f r he; cases e <;> cases he
  | cons x t ih =>
    obtain ⟨s, x⟩ := x
    intro ahead h e f r he
    rw [rightD] at h
    split at h
    · cases h
    · rename_i hn
      split at h
      · cases e with
        | nil =>
          injection he with h1 _
          subst h1
          simp only [Bool.or_eq_true, not_or, Bool.not_eq_true, Bool.not_eq_false'] at hn
          exact ⟨hn.2, by simpa using hn.1⟩
        | cons y e =>
          injection he with h1 h2
          subst h1
          have := ih _ h e f r h2
          simpa [List.append_assoc] using this
      · contradiction
theorem comp_any (v : V) : CompV v := by
  induction v using V.ind with
  | h k m s l d ihl ihd =>
  intro n deep p Q hn hfit hr hl
  rw [stepsV] at hn
  obtain ⟨⟨hfk, hfm⟩, hfl, hfd⟩ := (V.fit_mk ..).1 hfit
  obtain ⟨⟨halone, hfits⟩, hrl, hrd⟩ := right_parts hr
  obtain ⟨k1, k2, k8, k9⟩ := fits_cases hfits
  have hdeep : (k = 5 ∨ k = 6) → deep + 1 ≤ 20 := by
    intro hk
    rw [rightV] at hr
    split at hr
    · cases hr
    · rename_i hd
      have : ¬ 20 < deep + 1 := fun h => hd ⟨hk, h⟩
      omega
  obtain ⟨n, rfl⟩ : ∃ j, n = j + 1 := ⟨n - 1, by omega⟩
  rw [aloneV] at halone
  simp only [Bool.and_eq_true, Bool.or_eq_true, decide_eq_true_eq, beq_iff_eq] at halone
  obtain ⟨al1, al2, al3, al4⟩ := halone
  have hs0 : ¬ (k = 4 ∨ k = 7 ∨ k = 8) → s = ⟨#[]⟩ := fun h => toList_nil (by rcases al2 with h' | h'; exact absurd h' h; simpa using h')
  have hm0 : ¬ (k = 3 ∨ k = 9 ∨ k = 10) → m = 0 := fun h => by rcases al1 with h' | h'; exact absurd h' h; exact h'
  have hl0 : ¬ k = 6 → l = [] := fun h => by rcases al3 with h' | h'; exact absurd h' h; exact List.eq_nil_of_length_eq_zero h'
  have hd0 : ¬ k = 5 → d = [] := fun h => by rcases al4 with h' | h'; exact absurd h' h; exact List.eq_nil_of_length_eq_zero h'
  rw [encV] at hl ⊢
  rw [kindN, valF]
  by_cases c5 : k = 5
  · subst c5
    obtain rfl := hs0 (by decide)
    obtain rfl := hm0 (by decide)
    obtain rfl := hl0 (by decide)
    simp only [Int.reduceEq, or_self, if_false, if_true] at hl ⊢
    have hlen : (leB 4 (((encD d).length : Int) + 5) ++ encD d ++ [0]).length = (encD d).length + 5 := by simp [leB_len]; omega
    have hrn : rightD (deep + 1 + 1) [] d = 0 := by
      rw [rightV] at hr
      split at hr
      · cases hr
      · split at hr
        · simpa using hr
        · cases hr
    rw [comp_doc (fun f hf => ihd f hf) (by omega) (hdeep (.inl rfl)) (fun f hf => ⟨hfd f hf, (hrd f hf).2, name_bytes (hrd f hf).1⟩) (by omega) ?_, hlen]
    intro e f r he
    have := right_names d [] hrn e f r he
    unfold mayName
    simp only [Bool.false_eq_true, if_false]
    rw [this.1]
    simpa using this.2
  by_cases c6 : k = 6
  · subst c6
    obtain rfl := hs0 (by decide)
    obtain rfl := hm0 (by decide)
    obtain rfl := hd0 (by decide)
    simp only [Int.reduceEq, or_self, if_false, if_true] at hl ⊢
    have hd := encD_map l 0
    simp only [Nat.zero_add] at hd
    have hst := stepsD_map l 0
    simp only [Nat.zero_add] at hst
    rw [← hd] at hl ⊢
    generalize hgd : (l.mapIdx fun j x => (itoaB j, x)) = dd at hd hl hst ⊢
    have hmem : ∀ f ∈ dd, f.2 ∈ l ∧ ∃ j, f.1 = itoaB j := by
      intro f hf
      rw [← hgd] at hf
      obtain ⟨i, hi, e⟩ := List.mem_iff_getElem.1 hf
      simp at e
      subst e
      exact ⟨List.getElem_mem _, i, rfl⟩
    have hlen : (leB 4 (((encD dd).length : Int) + 5) ++ encD dd ++ [0]).length = (encD dd).length + 5 := by simp [leB_len]; omega
    rw [comp_doc (fun f hf => ihl _ (hmem f hf).1) (by omega) (hdeep (.inr rfl)) (fun f hf => ⟨hfl _ (hmem f hf).1, hrl _ (hmem f hf).1, by obtain ⟨j, hj⟩ := (hmem f hf).2; rw [hj]; exact itoa_bytes j⟩) (by omega) ?_, hlen]
    · have : dd.map (·.2) = l := by
        rw [← hgd]
        apply List.ext_getElem?
        intro i
        rw [List.getElem?_map, List.getElem?_mapIdx]
        cases l[i]? <;> rfl
      simp only [this]
    · intro e f r he
      have hj : dd[e.length]? = some f := by rw [he, List.getElem?_append_right (Nat.le_refl _)]; simp
      rw [← hgd, List.getElem?_mapIdx] at hj
      obtain ⟨x, hx, rfl⟩ := Option.map_eq_some_iff.1 hj
      unfold mayName
      simp
  obtain rfl := hl0 c6
  obtain rfl := hd0 c5
  by_cases c3 : k = 3 ∨ k = 10
  · obtain rfl := hs0 (by omega)
    rw [if_neg c5, if_neg c6, if_pos c3, if_pos c3, if_neg (by simp [leB_len]), wrap_back hfm]
    simp [leB_len]
  by_cases c4 : k = 4
  · subst c4
    obtain rfl := hm0 (by decide)
    simp only [Int.reduceEq, or_self, if_false, if_true] at hl ⊢
    simp [leB_len] at hl
    have hl4 : (leB 4 (((s.size + 1 : Nat)) : Int)).length = 4 := leB_len _ _
    have e0 : leB 4 ((s.size : Int) + 1) ++ bsI s ++ [0] ++ Q = leB 4 ((s.size + 1 : Nat) : Int) ++ (bsI s ++ ([0] ++ Q)) := by simp
    have hb := bsI_len s
    rw [e0, num_four (by omega), if_neg (by simp [leB_len]), if_neg (by omega), if_neg (by rw [List.length_append, List.length_append, List.length_append, hl4, hb]; simp; omega), Int.toNat_natCast, List.drop_left' hl4]
    have e1 : (bsI s ++ ([0] ++ Q)).take (s.size + 1 - 1) = bsI s := by rw [List.take_append_of_le_length (by omega), List.take_of_length_le (by omega)]
    have e2 : (leB 4 ((s.size + 1 : Nat) : Int) ++ (bsI s ++ ([0] ++ Q))).getD (3 + (s.size + 1)) 0 = 0 := by
      rw [List.getD_eq_getElem?_getD, List.getElem?_append_right (by omega), hl4, List.getElem?_append_right (by omega), show 3 + (s.size + 1) - 4 - (bsI s).length = 0 by omega]
      rfl
    rw [e1, e2, nums_bsI, if_pos ⟨rfl, by unfold textOk; simpa [fitsV] using hfits⟩]
    simp [leB_len, hb]
  by_cases c7 : k = 7
  · subst c7
    obtain rfl := hm0 (by decide)
    simp only [Int.reduceEq, or_self, if_false, if_true] at hl ⊢
    simp [leB_len] at hl
    have hl4 : (leB 4 (s.size : Int)).length = 4 := leB_len _ _
    have hb := bsI_len s
    have e0 : leB 4 (s.size : Int) ++ [0] ++ bsI s ++ Q = leB 4 (s.size : Int) ++ ([0] ++ (bsI s ++ Q)) := by simp
    have e3 : leB 4 (s.size : Int) ++ ([0] ++ (bsI s ++ Q)) = (leB 4 (s.size : Int) ++ [0]) ++ (bsI s ++ Q) := by simp
    have hlen : (leB 4 (s.size : Int) ++ ([0] ++ (bsI s ++ Q))).length = 5 + s.size + Q.length := by rw [List.length_append, List.length_append, List.length_append, hl4, hb]; simp; omega
    rw [e0, num_four (by omega), if_neg (by omega), if_neg (by omega), Int.toNat_natCast]
    have e2 : (leB 4 (s.size : Int) ++ ([0] ++ (bsI s ++ Q))).getD 4 0 = 0 := by
      rw [List.getD_eq_getElem?_getD, List.getElem?_append_right (by omega), hl4]
      rfl
    rw [e2, if_pos rfl, e3, List.drop_left' (by simp [hl4]), List.take_append_of_le_length (by omega), List.take_of_length_le (by omega), nums_bsI]
    simp [leB_len, hb]
    omega
  by_cases c8 : k = 8
  · subst c8
    obtain rfl := hm0 (by decide)
    have hb := bsI_len s
    have := k8 rfl
    simp only [Int.reduceEq, or_self, if_false, if_true] at hl ⊢
    rw [if_neg (by rw [List.length_append]; omega), List.take_append_of_le_length (by omega), List.take_of_length_le (by omega), nums_bsI, hb, this]
  by_cases c9 : k = 9
  · subst c9
    obtain rfl := hs0 (by decide)
    simp only [Int.reduceEq, or_self, if_false, if_true] at hl ⊢
    have := k9 rfl
    rw [if_neg (by simp)]
    simp only [List.cons_append, List.nil_append, List.getD_cons_zero]
    rw [if_neg (by omega)]
    rfl
  · obtain rfl := hs0 (by omega)
    obtain rfl := hm0 (by omega)
    rw [if_neg c5, if_neg c6, if_neg c3, if_neg c4, if_neg c7, if_neg c8, if_neg c9, if_neg c3, if_neg c4, if_neg c7, if_neg c8, if_neg c9, if_neg c5, if_neg c6]
    rfl
end Go.Proofs.YtjfgmcmnpekahaaDoor
namespace Go.Proofs.YtjfgmcmnpekahaaDoor
open Go.RowKit
set_option maxRecDepth 100000

def FuelD (n : Nat) : Prop := ∀ (n' : Nat) (list : Bool) (deep : Int) (R : List Int) (p : Int), R.length + 2 ≤ n → R.length + 2 ≤ n' → docF n list deep R p = docF n' list deep R p
def FuelF (n : Nat) : Prop := ∀ (n' : Nat) (list : Bool) (deep : Int) (ahead : List (ByteArray × V)) (I : List Int) (z p : Int), I.length + 3 ≤ n → I.length + 3 ≤ n' → fldF n list deep ahead I z p = fldF n' list deep ahead I z p
def FuelV (n : Nat) : Prop := ∀ (n' : Nat) (k deep : Int) (R : List Int) (p : Int), R.length + 3 ≤ n → R.length + 3 ≤ n' → valF n k deep R p = valF n' k deep R p
theorem fuel_all : ∀ n : Nat, FuelD n ∧ FuelF n ∧ FuelV n := by
  intro n
  induction n with
  | zero => exact ⟨fun n' list deep R p h _ => by omega, fun n' list deep ahead I z p h _ => by omega, fun n' k deep R p h _ => by omega⟩
  | succ n ih =>
    obtain ⟨hD, hF, hV⟩ := ih
    refine ⟨fun n' list deep R p h h' => ?_, fun n' list deep ahead I z p h h' => ?_, fun n' k deep R p h h' => ?_⟩
    · obtain ⟨n', rfl⟩ : ∃ m, n' = m + 1 := ⟨n' - 1, by omega⟩
      rw [docF, docF]
      by_cases h4 : R.length < 4
      · rw [if_pos h4, if_pos h4]
      · by_cases h5 : num (R.take 4) < 5 ∨ 65536 < num (R.take 4)
        · rw [if_neg h4, if_pos h5, if_neg h4, if_pos h5]
        · rw [hF n' list deep [] _ _ _ (by rw [List.length_take, List.length_drop]; omega) (by rw [List.length_take, List.length_drop]; omega)]
    · obtain ⟨n', rfl⟩ : ∃ m, n' = m + 1 := ⟨n' - 1, by omega⟩
      cases I with
      | nil => rw [fldF, fldF]
      | cons c J =>
        rw [fldF, fldF]
        cases hz : toZ J with
        | none => rfl
        | some l =>
          obtain ⟨-, -, z3⟩ := toZ_some hz
          simp only [List.length_cons] at h h'
          have hVe : ∀ q : Int, valF n (kindOf c) deep (J.drop (l.length + 1)) q = valF n' (kindOf c) deep (J.drop (l.length + 1)) q := fun q => hV n' (kindOf c) deep (J.drop (l.length + 1)) q (by rw [List.length_drop]; omega) (by rw [List.length_drop]; omega)
          have e : ∀ (v : V) (m : Nat), fldF n list deep (ahead ++ [(strOfNums l, v)]) ((J.drop (l.length + 1)).drop m) z (p + 1 + l.length + 1 + m) = fldF n' list deep (ahead ++ [(strOfNums l, v)]) ((J.drop (l.length + 1)).drop m) z (p + 1 + l.length + 1 + m) := fun v m =>
            hF n' list deep _ _ _ _ (by rw [List.length_drop, List.length_drop]; omega) (by rw [List.length_drop, List.length_drop]; omega)
          simp only [hVe, e]
    · obtain ⟨n', rfl⟩ : ∃ m, n' = m + 1 := ⟨n' - 1, by omega⟩
      rw [valF, valF, hD n' false (deep + 1) R p (by omega) (by omega), hD n' true (deep + 1) R p (by omega) (by omega)]

/-- A fault stands within what is read, or at its end; none is of no kind. -/
def WhereF (n : Nat) : Prop := ∀ (list : Bool) (deep : Int) (ahead : List (ByteArray × V)) (I : List Int) (z p c q : Int), I.length + 3 ≤ n → isB I → fldF n list deep ahead I z p = .bad c q → p ≤ q ∧ q ≤ p + I.length ∧ 20 ≤ c
theorem ok_bad {α : Type} {a : α} {m : Nat} {c q : Int} (h : Res.ok a m = .bad c q) : False := by cases h
theorem where_all : ∀ n : Nat, (∀ (list : Bool) (deep : Int) (R : List Int) (p c q : Int), isB R → R.length + 2 ≤ n → docF n list deep R p = .bad c q → p ≤ q ∧ q ≤ p + R.length ∧ 20 ≤ c) ∧ WhereF n ∧ (∀ (k deep : Int) (R : List Int) (p c q : Int), isB R → 1 ≤ k → k ≤ 11 → R.length + 3 ≤ n → valF n k deep R p = .bad c q → p ≤ q ∧ q ≤ p + R.length ∧ 20 ≤ c) := by
  intro n
  induction n with
  | zero => exact ⟨fun list deep R p c q _ h => by omega, fun list deep ahead I z p c q h => by omega, fun k deep R p c q _ _ _ h => by omega⟩
  | succ n ih =>
    obtain ⟨hD, hF, hV⟩ := ih
    refine ⟨fun list deep R p c q hB h hd => ?_, fun list deep ahead I z p c q h hB hd => ?_, fun k deep R p c q hB k1 k11 h hd => ?_⟩
    · rw [docF] at hd
      split at hd
      · injection hd with e1 e2; omega
      split at hd
      · injection hd with e1 e2; omega
      split at hd
      · injection hd with e1 e2; omega
      split at hd
      · injection hd with e1 e2; omega
      rename_i h4 h5 h6
      split at hd
      · rename_i c' q' hf
        injection hd with e1 e2
        subst e1 e2
        obtain ⟨a1, a2, a3⟩ := hF list deep [] _ _ _ _ _ (by rw [List.length_take, List.length_drop]; omega) (isB_take (isB_dropn hB 4) _) hf
        rw [List.length_take, List.length_drop] at a2
        omega
      · cases hd
    · cases I with
      | nil =>
        rw [fldF] at hd
        split at hd
        · cases hd
        · injection hd with e1 e2; simp; omega
      | cons x J =>
        rw [fldF] at hd
        simp only [List.length_cons] at h ⊢
        split at hd
        · injection hd with e1 e2; omega
        split at hd
        · injection hd with e1 e2; omega
        rename_i hk
        split at hd
        · injection hd with e1 e2; omega
        · rename_i l hz
          obtain ⟨z1, -, z3⟩ := toZ_some hz
          have hJ : isB J := fun b hb => hB b (by simp [hb])
          have hkr := kindOf_range x
          split at hd
          · split at hd
            · rename_i c' q' hval
              injection hd with e1 e2
              subst e1 e2
              obtain ⟨a1, a2, a3⟩ := hV _ _ _ _ _ _ (isB_dropn hJ _) (by omega) (by omega) (by rw [List.length_drop]; omega) hval
              rw [List.length_drop] at a2
              omega
            · rename_i v m hval
              have hs := (sound_all n).2.2 _ _ _ _ _ _ (isB_dropn hJ _) (by omega) (by omega) hval
              obtain ⟨a1, a2, a3⟩ := hF _ _ _ _ _ _ _ _ (by rw [List.length_drop, List.length_drop]; omega) (isB_dropn (isB_dropn hJ _) _) hd
              have := hs.2.1
              rw [List.length_drop] at this
              rw [List.length_drop, List.length_drop] at a2
              omega
          · injection hd with e1 e2; omega
    · rw [valF] at hd
      repeat' split at hd
      all_goals first
        | (exact (ok_bad hd).elim)
        | (rename_i hx; injection hd with e1 e2; subst e1 e2; have := hD _ _ _ _ _ _ hB (by omega) hx; omega)
        | (injection hd with e1 e2; omega)
/-- Of a document's bytes no beginning is read. -/
theorem doc_short {N : Nat} {b : List Int} (hb : num (b.take 4) = N) (hl : b.length = N) (h5 : 5 ≤ N) (h6 : N ≤ 65536) {c : Nat} (hc : c < N) {n : Nat} (hn : 1 ≤ n) (list : Bool) (p : Int) : docF n list 1 (b.take c) p = .bad 20 p := by
  obtain ⟨n, rfl⟩ : ∃ m, n = m + 1 := ⟨n - 1, by omega⟩
  rw [docF, if_neg (by decide)]
  have hlen : (b.take c).length = c := by rw [List.length_take]; omega
  by_cases hc4 : c < 4
  · rw [if_pos (by omega)]
  · rw [if_neg (by omega), List.take_take, Nat.min_eq_left (by omega), hb, if_neg (by omega), if_pos (by omega)]
end Go.Proofs.YtjfgmcmnpekahaaDoor
namespace Go.Proofs.YtjfgmcmnpekahaaDoor
open Go.RowKit
set_option maxRecDepth 100000

theorem itoa_size (n : Nat) : (bsI (itoaB n)).length = digN n := by
  have h1 : (bsI (itoaB n)).length = (Lib.itoa n).length := by simp [bsI, itoaB]
  rw [h1, Lib.itoa_nonneg, Lib.decDigits_length]
  induction n using Nat.strongRecOn with
  | ind n ih =>
    by_cases h : n < 10
    · rw [Lib.nDigits_small h, digN, if_pos h]
    · rw [Lib.nDigits_big h, digN, if_neg h, ih (n / 10) (by omega)]
      simp [bsI, itoaB]
def SizeOk (v : V) : Prop := ∀ (n deep : Int), rightV deep v = 0 → (n + (encV v).length ≤ 65536 ∨ szFrom n v ≤ 65536) → szFrom n v = n + (encV v).length
theorem size_list : ∀ (l : List V), (∀ x ∈ l, SizeOk x) → ∀ (n : Int) (i : Nat) (deep : Int), (∀ x ∈ l, rightV deep x = 0) → (n + (encL i l).length ≤ 65536 ∨ szL n i l ≤ 65536) → szL n i l = n + (encL i l).length := by
  intro l
  induction l with
  | nil => intro _ n i deep _ _; rw [szL, encL]; simp
  | cons x r ih =>
    intro hs n i deep hr h
    have hlen : ((encL i (x :: r)).length : Int) = 2 + digN i + (encV x).length + (encL (i + 1) r).length := by
      rw [encL]
      simp only [List.length_cons, List.length_append, itoa_size]
      omega
    have hn : ¬ 65536 < n := by
      intro hn
      rcases h with h | h
      · omega
      · rw [szL, if_pos hn] at h; omega
    rw [szL, if_neg hn] at h ⊢
    have hx : szFrom (n + 2 + digN i) x = n + 2 + digN i + (encV x).length := by
      refine hs x (by simp) _ deep (hr x (by simp)) ?_
      rcases h with h | h
      · left; omega
      · right; have := szL_up r (i + 1) (szFrom (n + 2 + digN i) x); omega
    rw [hx] at h ⊢
    rw [ih (fun y hy => hs y (by simp [hy])) _ (i + 1) deep (fun y hy => hr y (by simp [hy])) (by rcases h with h | h; left; omega; right; exact h)]
    omega
theorem size_doc : ∀ (d : List (ByteArray × V)), (∀ f ∈ d, SizeOk f.2) → ∀ (n deep : Int), (∀ f ∈ d, rightV deep f.2 = 0) → (n + (encD d).length ≤ 65536 ∨ szD n d ≤ 65536) → szD n d = n + (encD d).length := by
  intro d
  induction d with
  | nil => intro _ n deep _ _; rw [szD, encD]; simp
  | cons f r ih =>
    obtain ⟨s, x⟩ := f
    intro hs n deep hr h
    have hlen : ((encD ((s, x) :: r)).length : Int) = 2 + s.size + (encV x).length + (encD r).length := by
      rw [encD]
      simp only [List.length_cons, List.length_append, bsI_len]
      omega
    have hn : ¬ 65536 < n := by
      intro hn
      rcases h with h | h
      · omega
      · rw [szD, if_pos hn] at h; omega
    rw [szD, if_neg hn] at h ⊢
    have hx : szFrom (n + 2 + s.size) x = n + 2 + s.size + (encV x).length := by
      refine hs (s, x) (by simp) _ deep (hr (s, x) (by simp)) ?_
      rcases h with h | h
      · left; show n + 2 + s.size + ((encV x).length : Int) ≤ 65536; omega
      · right; have := szD_up r (szFrom (n + 2 + s.size) x); show szFrom (n + 2 + s.size) x ≤ 65536; omega
    rw [hx] at h ⊢
    rw [ih (fun y hy => hs y (by simp [hy])) _ deep (fun y hy => hr y (by simp [hy])) (by rcases h with h | h; left; omega; right; exact h)]
    omega
theorem size_enc (v : V) : SizeOk v := by
  induction v using V.ind with
  | h k m s l d ihl ihd =>
  intro n deep hr h
  obtain ⟨⟨halone, hfits⟩, hrl, hrd⟩ := right_parts hr
  obtain ⟨k1, k2, k8, k9⟩ := fits_cases hfits
  rw [encV] at h ⊢
  rw [szFrom] at h ⊢
  by_cases c3 : k = 3 ∨ k = 10
  · rw [if_pos c3, if_pos c3]; simp [leB_len]
  rw [if_neg c3] at h ⊢
  by_cases c4 : k = 4
  · subst c4; simp [leB_len, bsI_len]; omega
  by_cases c7 : k = 7
  · subst c7; simp [leB_len, bsI_len]; omega
  by_cases c8 : k = 8
  · subst c8; have := k8 rfl; simp [bsI_len, this]
  by_cases c9 : k = 9
  · subst c9; simp
  by_cases c5 : k = 5
  · subst c5
    simp only [Int.reduceEq, or_self, if_false, if_true] at h ⊢
    have hlen : ((leB 4 (((encD d).length : Int) + 5) ++ encD d ++ [0]).length : Int) = (encD d).length + 5 := by simp [leB_len]; omega
    rw [hlen] at h ⊢
    rw [size_doc d (fun f hf => ihd f hf) (n + 5) (deep + 1) (fun f hf => (hrd f hf).2) (by rcases h with h | h; left; omega; right; exact h)]
    omega
  by_cases c6 : k = 6
  · subst c6
    simp only [Int.reduceEq, or_self, if_false, if_true] at h ⊢
    have hlen : ((leB 4 (((encL 0 l).length : Int) + 5) ++ encL 0 l ++ [0]).length : Int) = (encL 0 l).length + 5 := by simp [leB_len]; omega
    rw [hlen] at h ⊢
    rw [size_list l (fun f hf => ihl f hf) (n + 5) 0 (deep + 1) hrl (by rcases h with h | h; left; omega; right; exact h)]
    omega
  · rw [if_neg (by omega), if_neg c8, if_neg c9, if_neg c5, if_neg c6, if_neg c3, if_neg c4, if_neg c7, if_neg c8, if_neg c9, if_neg c5, if_neg c6]
    simp

/-- What is read is right. -/
def RightV (n : Nat) : Prop := ∀ (k deep : Int) (R : List Int) (p : Int) (v : V) (m : Nat), isB R → 1 ≤ k → k ≤ 11 → valF n k deep R p = .ok v m → rightV (deep + 1) v = 0
def RightF (n : Nat) : Prop := ∀ (list : Bool) (deep : Int) (ahead : List (ByteArray × V)) (I : List Int) (z p : Int) (d : List (ByteArray × V)) (m : Nat), isB I → fldF n list deep ahead I z p = .ok d m →
  ∃ e, d = ahead ++ e ∧ (list = false → rightD (deep + 1) (ahead.map fun f => f.1.data.toList) e = 0) ∧ (list = true → rightL (deep + 1) (e.map (·.2)) = 0)
def RightDoc (n : Nat) : Prop := ∀ (list : Bool) (deep : Int) (R : List Int) (p : Int) (d : List (ByteArray × V)) (m : Nat), isB R → docF n list deep R p = .ok d m → deep ≤ 20 ∧ (list = false → rightD (deep + 1) [] d = 0) ∧ (list = true → rightL (deep + 1) (d.map (·.2)) = 0)
theorem right_leaf {deep k m : Int} {s : ByteArray} (h5 : k ≠ 5) (h6 : k ≠ 6) (ha : aloneV (.mk k m s [] []) = true) (hf : fitsV (.mk k m s [] []) = true) : rightV deep (.mk k m s [] []) = 0 := by
  rw [rightV, if_neg (by rintro ⟨h | h, _⟩; exact h5 h; exact h6 h), ha, hf, if_neg h6, if_neg h5]
  rfl
theorem alone_text {k : Int} {s : ByteArray} (h : k = 4 ∨ k = 7 ∨ k = 8) : aloneV (.mk k 0 s [] []) = true := by
  rw [aloneV]; simp [h]
theorem alone_num {k m : Int} (h : k = 3 ∨ k = 9 ∨ k = 10 ∨ m = 0) : aloneV (.mk k m ⟨#[]⟩ [] []) = true := by
  rw [aloneV, Lib.toList_data]
  simp
  omega
theorem right_all : ∀ n : Nat, RightDoc n ∧ RightF n ∧ RightV n := by
  intro n
  induction n with
  | zero =>
    refine ⟨fun list deep R p d m _ h => ?_, fun list deep ahead I z p d m _ h => ?_, fun k deep R p v m _ _ _ h => ?_⟩
    · rw [docF] at h; cases h
    · rw [fldF] at h; cases h
    · rw [valF] at h; cases h
  | succ n ih =>
    obtain ⟨hD, hF, hV⟩ := ih
    refine ⟨fun list deep R p d m hB h => ?_, fun list deep ahead I z p d m hB h => ?_, fun k deep R p v m hB k1 k11 h => ?_⟩
    · rw [docF] at h
      split at h
      · cases h
      split at h
      · cases h
      split at h
      · cases h
      split at h
      · cases h
      split at h
      · cases h
      · rename_i hd _ _ _ _ d' m' hf
        injection h with h1 h2
        subst h1
        obtain ⟨e, he, h3, h4⟩ := hF list deep [] _ _ _ _ _ (isB_take (isB_dropn hB 4) _) hf
        rw [List.nil_append] at he
        subst he
        exact ⟨by omega, h3, h4⟩
    · cases I with
      | nil =>
        rw [fldF] at h
        split at h
        · injection h with h1 _
          exact ⟨[], by simp [h1], fun _ => by rw [rightD], fun _ => by rw [List.map_nil, rightL]⟩
        · cases h
      | cons c J =>
        rw [fldF] at h
        have hJ : isB J := fun b hb => hB b (by simp [hb])
        have hkr := kindOf_range c
        split at h
        · cases h
        split at h
        · cases h
        split at h
        · cases h
        · rename_i hk l hl
          split at h
          · rename_i hname
            split at h
            · cases h
            · rename_i v m' hval
              have hv := hV _ _ _ _ _ _ (isB_dropn hJ _) (by omega) (by omega) hval
              obtain ⟨e, rfl, h3, h4⟩ := hF _ _ _ _ _ _ _ _ (isB_dropn (isB_dropn hJ _) _) h
              refine ⟨(strOfNums l, v) :: e, by simp, fun hl => ?_, fun hl => ?_⟩
              · have := h3 hl
                rw [List.map_append] at this
                unfold mayName at hname
                rw [hl] at hname
                simp only [Bool.false_eq_true, if_false, Bool.and_eq_true, Bool.not_eq_true'] at hname
                rw [rightD, hname.2, hname.1, if_neg (by decide), hv, if_pos rfl]
                exact this
              · rw [List.map_cons, rightL, hv, if_pos rfl]
                exact h4 hl
          · cases h
    · rw [valF] at h
      split at h
      · rename_i hk
        subst hk
        split at h
        · cases h
        · rename_i d m' hdoc
          injection h with e1 e2
          subst e1
          obtain ⟨a1, a2, -⟩ := hD _ _ _ _ _ _ hB hdoc
          rw [rightV, if_neg (by omega), show aloneV (.mk 5 0 ⟨#[]⟩ [] d) = true by rw [aloneV, Lib.toList_data]; rfl, show fitsV (.mk 5 0 ⟨#[]⟩ [] d) = true by rw [fitsV]; rfl]
          exact a2 rfl
      split at h
      · rename_i hk
        subst hk
        split at h
        · cases h
        · rename_i d m' hdoc
          injection h with e1 e2
          subst e1
          obtain ⟨a1, -, a3⟩ := hD _ _ _ _ _ _ hB hdoc
          rw [rightV, if_neg (by omega), show aloneV (.mk 6 0 ⟨#[]⟩ (d.map (·.2)) []) = true by rw [aloneV, Lib.toList_data]; rfl, show fitsV (.mk 6 0 ⟨#[]⟩ (d.map (·.2)) []) = true by rw [fitsV]; rfl]
          exact a3 rfl
      rename_i k5 k6
      split at h
      · rename_i hk
        split at h
        · cases h
        injection h with e1 e2
        subst e1
        refine right_leaf k5 k6 (alone_num (by omega)) ?_
        rw [fitsV, if_neg (by omega), if_neg (by omega), if_neg (by omega)]
        simp; omega
      split at h
      · rename_i hk
        subst hk
        split at h
        · cases h
        split at h
        · cases h
        split at h
        · cases h
        split at h
        · rename_i ht
          injection h with e1 e2
          subst e1
          refine right_leaf k5 k6 (alone_text (by omega)) ?_
          rw [fitsV, if_pos rfl]
          exact ht.2
        · cases h
      split at h
      · rename_i hk
        subst hk
        split at h
        · cases h
        split at h
        · cases h
        split at h
        · injection h with e1 e2
          subst e1
          exact right_leaf k5 k6 (alone_text (by omega)) (by rw [fitsV]; rfl)
        · cases h
      split at h
      · rename_i hk
        subst hk
        split at h
        · cases h
        rename_i hl
        injection h with e1 e2
        subst e1
        refine right_leaf k5 k6 (alone_text (by omega)) ?_
        rw [fitsV, if_neg (by decide), if_pos rfl]
        have : (strOfNums (R.take 12)).size = 12 := by rw [← bsI_len, bsI_nums (isB_take hB 12), List.length_take]; omega
        rw [this]
        rfl
      split at h
      · rename_i hk
        subst hk
        split at h
        · cases h
        rename_i hl
        split at h
        · cases h
        rename_i h1
        injection h with e1 e2
        subst e1
        refine right_leaf k5 k6 (alone_num (by omega)) ?_
        rw [fitsV, if_neg (by decide), if_neg (by decide), if_pos rfl]
        cases R with
        | nil => simp at hl
        | cons x r =>
          have := hB x (by simp)
          simp at h1 ⊢
          omega
      · rename_i k3 k4 k7 k8 k9
        injection h with e1 e2
        subst e1
        refine right_leaf k5 k6 (alone_num (by omega)) ?_
        rw [fitsV, if_neg k4, if_neg k8, if_neg k9]
        simp; omega
end Go.Proofs.YtjfgmcmnpekahaaDoor
namespace Go.Proofs.YtjfgmcmnpekahaaDoor
open Go.RowKit
set_option maxRecDepth 100000

/-- A right document's bytes. -/
def isDocV : V → Prop
  | .mk k _ _ _ _ => k = 5
theorem right_doc {v : V} (hd : isDocV v) (h : rightOf v = 0) : ∃ d, v = .mk 5 0 ⟨#[]⟩ [] d ∧ rightV 1 v = 0 ∧ ((encV v).length : Int) = sizeV v ∧ (encV v).length ≤ 65536 := by
  obtain ⟨k, n, s, l, d⟩ := v
  have hk : k = 5 := hd
  subst hk
  unfold rightOf at h
  split at h
  · cases h
  rename_i hs
  obtain ⟨⟨ha, -⟩, -, -⟩ := right_parts h
  rw [aloneV] at ha
  simp only [Bool.and_eq_true, Bool.or_eq_true, decide_eq_true_eq, beq_iff_eq] at ha
  obtain ⟨a1, a2, a3, -⟩ := ha
  have e1 : n = 0 := by rcases a1 with h | h; omega; exact h
  have e2 : s = ⟨#[]⟩ := toList_nil (by rcases a2 with h | h; omega; simpa using h)
  have e3 : l = [] := by rcases a3 with h | h; omega; exact List.eq_nil_of_length_eq_zero h
  subst e1 e2 e3
  have hsz : szFrom 0 (.mk 5 0 ⟨#[]⟩ [] d) ≤ 65536 := by
    unfold sizeV at hs
    split at hs <;> omega
  have he := size_enc (.mk 5 0 ⟨#[]⟩ [] d) 0 1 h (.inr hsz)
  refine ⟨d, rfl, h, ?_, by omega⟩
  unfold sizeV
  rw [if_neg (by omega)]
  omega
/-- A document that is right is read as it was written, whatever stands behind. -/
theorem doc_back {d : List (ByteArray × V)} (hf : V.fit (.mk 5 0 ⟨#[]⟩ [] d)) (h : rightOf (.mk 5 0 ⟨#[]⟩ [] d) = 0) (Q : List Int) (p : Int) {n : Nat} (hn : (encV (.mk 5 0 ⟨#[]⟩ [] d) ++ Q).length + 2 ≤ n) :
    docF n false 1 (encV (.mk 5 0 ⟨#[]⟩ [] d) ++ Q) p = .ok d (encV (.mk 5 0 ⟨#[]⟩ [] d)).length := by
  obtain ⟨d', he, hr, -, hl⟩ := right_doc (v := .mk 5 0 ⟨#[]⟩ [] d) rfl h
  have hc := comp_any (.mk 5 0 ⟨#[]⟩ [] d) (stepsV (.mk 5 0 ⟨#[]⟩ [] d) + n + 1) 0 p Q (by omega) hf hr hl
  rw [kindN, valF, if_pos rfl] at hc
  rw [(fuel_all n).1 (stepsV (.mk 5 0 ⟨#[]⟩ [] d) + n) false 1 _ p hn (by omega)]
  split at hc
  · cases hc
  · rename_i d2 m hd
    injection hc with e1 e2
    injection e1 with _ _ _ _ e1
    subst e1 e2
    exact hd
/-- What is read is right, and is written as the bytes that were read. -/
theorem doc_form {R : List Int} {p : Int} {d : List (ByteArray × V)} {m n : Nat} (hB : isB R) (h : docF n false 1 R p = .ok d m) :
    R.take m = encV (.mk 5 0 ⟨#[]⟩ [] d) ∧ m ≤ R.length ∧ 5 ≤ m ∧ rightOf (.mk 5 0 ⟨#[]⟩ [] d) = 0 := by
  obtain ⟨a1, a2, -, a4, a5⟩ := (sound_all n).1 _ _ _ _ _ _ hB h
  obtain ⟨-, b2, -⟩ := (right_all n).1 _ _ _ _ _ _ hB h
  have he : encV (.mk 5 0 ⟨#[]⟩ [] d) = leB 4 ((encD d).length + 5) ++ encD d ++ [0] := by
    rw [encV]
    simp only [Int.reduceEq, or_self, if_false, if_true]
  have hr : rightV 1 (.mk 5 0 ⟨#[]⟩ [] d) = 0 := by
    rw [rightV, if_neg (by omega), show aloneV (.mk 5 0 ⟨#[]⟩ [] d) = true by rw [aloneV, Lib.toList_data]; rfl, show fitsV (.mk 5 0 ⟨#[]⟩ [] d) = true by rw [fitsV]; rfl]
    exact b2 rfl
  have hl : (encV (.mk 5 0 ⟨#[]⟩ [] d)).length = m := by rw [he]; simp [leB_len]; omega
  have hs := size_enc (.mk 5 0 ⟨#[]⟩ [] d) 0 1 hr (.inl (by omega))
  refine ⟨by rw [a2, he], a1, by omega, ?_⟩
  unfold rightOf sizeV
  rw [hs, if_neg (by split <;> omega)]
  exact hr
/-- The number that a document's bytes begin with is how many they are. -/
theorem doc_head {d : List (ByteArray × V)} (hl : (encV (.mk 5 0 ⟨#[]⟩ [] d)).length ≤ 65536) : num ((encV (.mk 5 0 ⟨#[]⟩ [] d)).take 4) = (encV (.mk 5 0 ⟨#[]⟩ [] d)).length ∧ 5 ≤ (encV (.mk 5 0 ⟨#[]⟩ [] d)).length := by
  have he : encV (.mk 5 0 ⟨#[]⟩ [] d) = leB 4 (((encD d).length + 5 : Nat) : Int) ++ (encD d ++ [0]) := by
    rw [encV]
    simp only [Int.reduceEq, or_self, if_false, if_true]
    simp
  have hn : (encV (.mk 5 0 ⟨#[]⟩ [] d)).length = (encD d).length + 5 := by rw [he]; simp [leB_len]; omega
  rw [hn] at hl ⊢
  rw [he, num_four (by omega)]
  omega
/-- No beginning of a document's bytes is read. -/
theorem doc_begins {d : List (ByteArray × V)} (hl : (encV (.mk 5 0 ⟨#[]⟩ [] d)).length ≤ 65536) {c n : Nat} (hc : c < (encV (.mk 5 0 ⟨#[]⟩ [] d)).length) (hn : 1 ≤ n) (p : Int) : docF n false 1 ((encV (.mk 5 0 ⟨#[]⟩ [] d)).take c) p = .bad 20 p := by
  obtain ⟨h1, h2⟩ := doc_head hl
  exact doc_short h1 rfl h2 hl hc hn false p
end Go.Proofs.YtjfgmcmnpekahaaDoor
