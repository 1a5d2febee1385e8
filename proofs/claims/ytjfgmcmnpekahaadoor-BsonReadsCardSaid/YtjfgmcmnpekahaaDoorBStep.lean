/- The document's reader, a field at a time, along the program's cursor. No statement is proved here. -/
import Derived.Test.YtjfgmcmnpekahaaDoorBVal
namespace Go.Proofs.YtjfgmcmnpekahaaDoor
open Go.RowKit
set_option maxRecDepth 100000

def fldR (list : Bool) (deep : Int) (ahead : List (ByteArray × V)) (I : List Int) (z p : Int) : Res (List (ByteArray × V)) := fldF (I.length + 3) list deep ahead I z p
def valR (k deep : Int) (R : List Int) (p : Int) : Res V := valF (R.length + 3) k deep R p
theorem valR_eq {n : Nat} {k deep p : Int} {R : List Int} (h : R.length + 3 ≤ n) : valF n k deep R p = valR k deep R p := (fuel_all n).2.2 _ _ _ _ _ h (Nat.le_refl _)
theorem fldR_eq {n : Nat} {list : Bool} {deep z p : Int} {ahead : List (ByteArray × V)} {I : List Int} (h : I.length + 3 ≤ n) : fldF n list deep ahead I z p = fldR list deep ahead I z p := (fuel_all n).2.1 _ _ _ _ _ _ _ h (Nat.le_refl _)
theorem fldR_nil (list : Bool) (deep : Int) (ahead : List (ByteArray × V)) (z p : Int) : fldR list deep ahead [] z p = if z = 0 then .ok ahead 0 else .bad 26 p := by
  unfold fldR
  rw [fldF]
theorem fldR_cons (list : Bool) (deep : Int) (ahead : List (ByteArray × V)) (c : Int) (J : List Int) (z p : Int) : fldR list deep ahead (c :: J) z p =
    if c = 0 then .bad 26 p else if kindOf c = 0 then .bad 22 p else
    match toZ J with
    | none => .bad 23 (p + 1)
    | some l =>
      if mayName list ahead (strOfNums l) then
        match valR (kindOf c) deep (J.drop (l.length + 1)) (p + 1 + l.length + 1) with
        | .bad c' q => .bad c' q
        | .ok v m => fldR list deep (ahead ++ [(strOfNums l, v)]) ((J.drop (l.length + 1)).drop m) z (p + 1 + l.length + 1 + m)
      else .bad 23 (p + 1) := by
  rw [fldR, List.length_cons, show J.length + 1 + 3 = (J.length + 3) + 1 by omega, fldF]
  cases hz : toZ J with
  | none => rfl
  | some l =>
    have z3 := (toZ_some hz).2.2
    have e1 : ∀ q : Int, valF (J.length + 3) (kindOf c) deep (J.drop (l.length + 1)) q = valR (kindOf c) deep (J.drop (l.length + 1)) q := fun q => valR_eq (by rw [List.length_drop]; omega)
    have e2 : ∀ (v : V) (m : Nat), fldF (J.length + 3) list deep (ahead ++ [(strOfNums l, v)]) ((J.drop (l.length + 1)).drop m) z (p + 1 + l.length + 1 + m) = fldR list deep (ahead ++ [(strOfNums l, v)]) ((J.drop (l.length + 1)).drop m) z (p + 1 + l.length + 1 + m) := fun v m =>
      fldR_eq (by rw [List.length_drop, List.length_drop]; omega)
    simp only [e1, e2]
    rfl
theorem rest_nil {K : Byt} {j : Nat} : K.rest j j = [] := by unfold Byt.rest; rw [Nat.sub_self]; rfl
theorem rest_cons {K : Byt} {j last : Nat} {c : Int} (hc : K.bs[j]? = some c) (h : j < last) : K.rest j last = c :: K.rest (j + 1) last := by
  obtain ⟨h1, rfl⟩ := List.getElem?_eq_some_iff.1 hc
  unfold Byt.rest
  rw [List.drop_eq_getElem_cons h1, show last - j = (last - (j + 1)) + 1 by omega, List.take_succ_cons]
/-- What the rest of a document's fields comes to, behind those. -/
def tailR (list : Bool) (deep : Int) (K : Byt) (j last : Nat) (z : Int) (fs : List (ByteArray × V)) : Res (List (ByteArray × V)) := fldR list deep fs (K.rest j last) z j
theorem tail_end {list : Bool} {deep : Int} {K : Byt} {j : Nat} {z : Int} {fs : List (ByteArray × V)} : tailR list deep K j j z fs = if z = 0 then .ok fs 0 else .bad 26 j := by
  unfold tailR
  rw [rest_nil, fldR_nil]
theorem tail_end0 {list : Bool} {deep : Int} {K : Byt} {j last : Nat} {z : Int} {fs : List (ByteArray × V)} (hj : j < last) (hc : K.bs[j]? = some 0) : tailR list deep K j last z fs = .bad 26 j := by
  unfold tailR
  rw [rest_cons hc hj, fldR_cons, if_pos rfl]
theorem tail_kind {list : Bool} {deep : Int} {K : Byt} {j last : Nat} {z c : Int} {fs : List (ByteArray × V)} (hj : j < last) (hc : K.bs[j]? = some c) (h0 : c ≠ 0) (hk : kindOf c = 0) : tailR list deep K j last z fs = .bad 22 j := by
  unfold tailR
  rw [rest_cons hc hj, fldR_cons, if_neg h0, if_pos hk]
theorem tail_none {list : Bool} {deep : Int} {K : Byt} {j last : Nat} {z c : Int} {fs : List (ByteArray × V)} (hj : j < last) (hc : K.bs[j]? = some c) (h0 : c ≠ 0) (hk : kindOf c ≠ 0) (hz : toZ (K.rest (j + 1) last) = none) : tailR list deep K j last z fs = .bad 23 ((j + 1 : Nat) : Int) := by
  unfold tailR
  rw [rest_cons hc hj, fldR_cons, if_neg h0, if_neg hk, hz]
  simp
theorem tail_name {list : Bool} {deep : Int} {K : Byt} {j last : Nat} {z c : Int} {fs : List (ByteArray × V)} {l : List Int} (hj : j < last) (hc : K.bs[j]? = some c) (h0 : c ≠ 0) (hk : kindOf c ≠ 0) (hz : toZ (K.rest (j + 1) last) = some l) (hm : mayName list fs (strOfNums l) = false) : tailR list deep K j last z fs = .bad 23 ((j + 1 : Nat) : Int) := by
  unfold tailR
  rw [rest_cons hc hj, fldR_cons, if_neg h0, if_neg hk, hz]
  simp [hm]
theorem tail_val {list : Bool} {deep : Int} {K : Byt} {j last : Nat} {z c : Int} {fs : List (ByteArray × V)} {l : List Int} (hj : j < last) (hc : K.bs[j]? = some c) (h0 : c ≠ 0) (hk : kindOf c ≠ 0) (hz : toZ (K.rest (j + 1) last) = some l) (hm : mayName list fs (strOfNums l) = true) :
    tailR list deep K j last z fs = match valR (kindOf c) deep (K.rest (j + 1 + l.length + 1) last) ((j + 1 + l.length + 1 : Nat) : Int) with
      | .bad c' q => .bad c' q
      | .ok v m => tailR list deep K (j + 1 + l.length + 1 + m) last z (fs ++ [(strOfNums l, v)]) := by
  unfold tailR
  rw [rest_cons hc hj, fldR_cons, if_neg h0, if_neg hk, hz]
  simp only [hm, if_true]
  rw [rest_drop, show j + 1 + (l.length + 1) = j + 1 + l.length + 1 by omega, show (j : Int) + 1 + (l.length : Int) + 1 = ((j + 1 + l.length + 1 : Nat) : Int) by omega]
  cases valR (kindOf c) deep (K.rest (j + 1 + l.length + 1) last) ((j + 1 + l.length + 1 : Nat) : Int) with
  | bad c' q => rfl
  | ok v m =>
    simp only
    rw [rest_drop, show ((j + 1 + l.length + 1 : Nat) : Int) + (m : Int) = ((j + 1 + l.length + 1 + m : Nat) : Int) by omega]
def docO (list : Bool) (d : List (ByteArray × V)) : V := if list then .mk 6 0 ⟨#[]⟩ (d.map (·.2)) [] else .mk 5 0 ⟨#[]⟩ [] d
def wholeR (list : Bool) (N : Nat) (res : Res (List (ByteArray × V))) : Res V := match res with
  | .bad c q => .bad c q
  | .ok d _ => .ok (docO list d) N
theorem docR_open {n : Nat} {list : Bool} {deep : Int} {K : Byt} {i r N : Nat} {z : Int} (hd : deep ≤ 20) (hN : num ((K.rest i r).take 4) = N) (h5 : 5 ≤ N) (h6 : N ≤ 65536) (hr : N ≤ r - i) (hi : r ≤ K.bs.length) (hz : K.bs[i + N - 1]? = some z) (hn : r - i + 2 ≤ n + 1) :
    docR (n + 1) list deep (K.rest i r) i = wholeR list N (tailR list deep K (i + 4) (i + N - 1) z []) := by
  have hlen : (K.rest i r).length = r - i := by
    unfold Byt.rest
    rw [List.length_take, List.length_drop]
    omega
  unfold docR
  rw [docF, if_neg (by omega), if_neg (by omega), hN, if_neg (by omega), if_neg (by rw [hlen]; omega), Int.toNat_natCast]
  have e1 : ((K.rest i r).drop 4).take (N - 5) = K.rest (i + 4) (i + N - 1) := by
    rw [rest_drop]
    unfold Byt.rest
    rw [List.take_take, show min (N - 5) (r - (i + 4)) = i + N - 1 - (i + 4) by omega]
  have e2 : (K.rest i r).getD (N - 1) 0 = z := by
    rw [List.getD_eq_getElem?_getD, rest_get (by omega), show i + (N - 1) = i + N - 1 by omega, hz]
    rfl
  rw [e1, e2, fldR_eq (by unfold Byt.rest; rw [List.length_take, List.length_drop]; omega), show (i : Int) + 4 = ((i + 4 : Nat) : Int) by omega]
  unfold tailR wholeR docO
  cases fldR list deep [] (K.rest (i + 4) (i + N - 1)) z ((i + 4 : Nat) : Int) <;> rfl
theorem docR_deep {n : Nat} {list : Bool} {deep : Int} {R : List Int} {p : Int} (hd : 20 < deep) : docR (n + 1) list deep R p = .bad 25 p := by
  unfold docR
  rw [docF, if_pos hd]
theorem docR_four {n : Nat} {list : Bool} {deep : Int} {R : List Int} {p : Int} (hd : ¬ 20 < deep) (h : R.length < 4) : docR (n + 1) list deep R p = .bad 20 p := by
  unfold docR
  rw [docF, if_neg hd, if_pos h]
theorem docR_long {n : Nat} {list : Bool} {deep : Int} {R : List Int} {p : Int} (hd : ¬ 20 < deep) (h : ¬ R.length < 4) (h2 : num (R.take 4) < 5 ∨ 65536 < num (R.take 4)) : docR (n + 1) list deep R p = .bad 21 p := by
  unfold docR
  rw [docF, if_neg hd, if_neg h, if_pos h2]
theorem docR_short {n : Nat} {list : Bool} {deep : Int} {R : List Int} {p : Int} (hd : ¬ 20 < deep) (h : ¬ R.length < 4) (h2 : ¬ (num (R.take 4) < 5 ∨ 65536 < num (R.take 4))) (h3 : (R.length : Int) < num (R.take 4)) : docR (n + 1) list deep R p = .bad 20 p := by
  unfold docR
  rw [docF, if_neg hd, if_neg h, if_neg h2, if_pos h3]
end Go.Proofs.YtjfgmcmnpekahaaDoor
