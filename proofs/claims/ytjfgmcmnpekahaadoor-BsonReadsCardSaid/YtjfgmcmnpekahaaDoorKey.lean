/- Keys: a value's bytes, and that they stand as the values do: plain words, no statement is proved here. -/
import Derived.Test.YtjfgmcmnpekahaaDoorRight2
import Derived.Test.YtjfgmcmnpekahaaDoorOrder
import Derived.Test.YtjfgmcmnpekahaaDoorBKind
namespace Go.Proofs.YtjfgmcmnpekahaaDoor
open Go.RowKit
set_option maxRecDepth 100000

/-- A text's bytes, as numbers. -/
def bsI (s : ByteArray) : List Int := s.data.toList.map fun b => (b.toNat : Int)
theorem bsI_len (s : ByteArray) : (bsI s).length = s.size := by simp [bsI]
/-- A text's bytes in a key. -/
def keyT : List Int → List Int
  | [] => [0, 0]
  | b :: r => if b = 0 then 0 :: 255 :: keyT r else b :: keyT r
/-- A number of so many bytes, the highest one first. -/
def beB (k : Nat) (n : Int) : List Int := (leB k n).reverse
theorem beB_succ (k : Nat) (n : Int) : beB (k + 1) n = n / 256 ^ k % 256 :: beB k n := by rw [beB, leB_snoc, List.reverse_append]; rfl
mutual
/-- A value's bytes in a key. -/
def keyV : V → List Int
  | .mk k n s l d => k % 256 ::
    (if k = 3 ∨ k = 10 then beB 8 (n + 9223372036854775808) else
    if k = 9 then [n % 256] else
    if k = 4 ∨ k = 7 then keyT (bsI s) else
    if k = 8 then bsI s else
    if k = 6 then keyL l else
    if k = 5 then keyD d else [])
def keyL : List V → List Int
  | [] => [0]
  | x :: r => 1 :: (keyV x ++ keyL r)
def keyD : List (ByteArray × V) → List Int
  | [] => [0]
  | (s, x) :: r => 1 :: (keyT (bsI s) ++ (keyV x ++ keyD r))
end
def flip (l : List Int) : List Int := l.map fun b => 255 - b
/-- A row's key. -/
def keyR : List V → List Bool → List Int
  | x :: r, b :: d => (if b then flip (keyV x) else keyV x) ++ keyR r d
  | _, _ => []
theorem keyT_le (l : List Int) : (keyT l).length ≤ 2 * l.length + 2 := by
  induction l with
  | nil => simp [keyT]
  | cons b r ih => rw [keyT]; split <;> simp <;> omega
theorem beB_len (k : Nat) (n : Int) : (beB k n).length = k := by rw [beB, List.length_reverse, leB_len]
theorem keyL_snoc (l : List V) : ∃ p, keyL l = p ++ [0] := by
  induction l with
  | nil => exact ⟨[], rfl⟩
  | cons x r ih => obtain ⟨p, hp⟩ := ih; exact ⟨1 :: (keyV x ++ p), by rw [keyL, hp]; simp⟩

/-- All numbers, in all depths, are of 64 bits. -/
def V.fit : V → Prop
  | .mk k n _ l d => (okInt k ∧ okInt n) ∧ fitL l ∧ fitD d
where
  fitL : List V → Prop
  | [] => True
  | x :: r => x.fit ∧ fitL r
  fitD : List (ByteArray × V) → Prop
  | [] => True
  | (_, x) :: r => x.fit ∧ fitD r
theorem V.fitL_iff (l : List V) : V.fit.fitL l ↔ ∀ x ∈ l, x.fit := by induction l with
  | nil => simp [V.fit.fitL]
  | cons x r ih => simp [V.fit.fitL, ih]
theorem V.fitD_iff (l : List (ByteArray × V)) : V.fit.fitD l ↔ ∀ f ∈ l, f.2.fit := by induction l with
  | nil => simp [V.fit.fitD]
  | cons x r ih => obtain ⟨s, x⟩ := x; simp [V.fit.fitD, ih]
theorem V.fit_mk (k n : Int) (s : ByteArray) (l : List V) (d : List (ByteArray × V)) : V.fit (.mk k n s l d) ↔ (okInt k ∧ okInt n) ∧ (∀ x ∈ l, x.fit) ∧ ∀ f ∈ d, f.2.fit := by
  rw [V.fit, V.fitL_iff, V.fitD_iff]
theorem T.ok.fit (t : T) : t.ok → t.val.fit := by
  induction t using T.ind with
  | h k n s la lc l da dc d ihl ihd =>
  intro ok
  rw [T.val_mk, V.fit_mk]
  simp only [T.ok, T.okL_iff, T.okD_iff] at ok
  obtain ⟨h1, h2, -, -, -, -, -, -, -, h10, h11⟩ := ok
  refine ⟨⟨h1, h2⟩, fun x hx => ?_, fun f hf => ?_⟩
  · obtain ⟨y, hy, rfl⟩ := List.mem_map.1 hx; exact ihl y hy (h10 y hy)
  · obtain ⟨y, hy, rfl⟩ := List.mem_map.1 hf; exact ihd y hy (h11 y hy).2

/-- The kinds are kinds, and what they don't use is zero, in all depths. -/
def V.shape : V → Bool
  | .mk k n s l d => aloneV (.mk k n s l d) && fitsV (.mk k n s l d) && shapeL l && shapeD d
where
  shapeL : List V → Bool
  | [] => true
  | x :: r => x.shape && shapeL r
  shapeD : List (ByteArray × V) → Bool
  | [] => true
  | (_, x) :: r => x.shape && shapeD r
theorem V.shapeL_iff (l : List V) : V.shape.shapeL l = true ↔ ∀ x ∈ l, x.shape = true := by induction l with
  | nil => simp [V.shape.shapeL]
  | cons x r ih => simp [V.shape.shapeL, ih]
theorem V.shapeD_iff (l : List (ByteArray × V)) : V.shape.shapeD l = true ↔ ∀ f ∈ l, f.2.shape = true := by induction l with
  | nil => simp [V.shape.shapeD]
  | cons x r ih => obtain ⟨s, x⟩ := x; simp [V.shape.shapeD, ih]
theorem V.shape_mk (k n : Int) (s : ByteArray) (l : List V) (d : List (ByteArray × V)) : V.shape (.mk k n s l d) = true ↔ (aloneV (.mk k n s l d) = true ∧ fitsV (.mk k n s l d) = true) ∧ (∀ x ∈ l, x.shape = true) ∧ ∀ f ∈ d, f.2.shape = true := by
  rw [V.shape, Bool.and_eq_true, Bool.and_eq_true, Bool.and_eq_true, V.shapeL_iff, V.shapeD_iff, and_assoc]
theorem right_allL {deep : Int} {l : List V} (h : rightL deep l = 0) : ∀ x ∈ l, rightV deep x = 0 := by
  induction l with
  | nil => simp
  | cons x r ih =>
    rw [rightL] at h
    split at h
    · intro y hy
      rcases List.mem_cons.1 hy with rfl | hy
      · assumption
      · exact ih h y hy
    · contradiction
theorem right_allD {deep : Int} {l : List (ByteArray × V)} : ∀ {ahead}, rightD deep ahead l = 0 → ∀ f ∈ l, nameOk f.1 = true ∧ rightV deep f.2 = 0 := by
  induction l with
  | nil => simp
  | cons x r ih =>
    intro ahead h
    obtain ⟨s, x⟩ := x
    rw [rightD] at h
    split at h
    · cases h
    · split at h
      · intro y hy
        rcases List.mem_cons.1 hy with rfl | hy
        · rename_i h1 h2
          simp at h1
          exact ⟨h1.2, h2⟩
        · exact ih h y hy
      · contradiction
/-- What a value's being right says of it, one step down. -/
theorem right_parts {deep k n : Int} {s : ByteArray} {l : List V} {d : List (ByteArray × V)} (h : rightV deep (.mk k n s l d) = 0) :
    (aloneV (.mk k n s l d) = true ∧ fitsV (.mk k n s l d) = true) ∧ (∀ x ∈ l, rightV (deep + 1) x = 0) ∧ ∀ f ∈ d, nameOk f.1 = true ∧ rightV (deep + 1) f.2 = 0 := by
  rw [rightV] at h
  split at h
  · cases h
  · split at h
    · rename_i h2
      rw [Bool.and_eq_true] at h2
      refine ⟨h2, ?_, ?_⟩
      · by_cases h6 : k = 6
        · rw [if_pos h6] at h; exact right_allL h
        · have h3 := h2.1
          simp [aloneV, h6] at h3
          rw [h3.2.2.1]; simp
      · by_cases h5 : k = 5
        · rw [if_neg (by omega), if_pos h5] at h; exact right_allD h
        · have h3 := h2.1
          simp [aloneV, h5] at h3
          rw [h3.2.2.2]; simp
    · cases h
theorem right_shape (v : V) : ∀ deep, rightV deep v = 0 → v.shape = true := by
  induction v using V.ind with
  | h k n s l d ihl ihd =>
  intro deep h
  obtain ⟨h1, h2, h3⟩ := right_parts h
  exact (V.shape_mk ..).2 ⟨h1, fun x hx => ihl x hx _ (h2 x hx), fun f hf => ihd f hf _ (h3 f hf).2⟩
/-- What is wanted of a kind. -/
theorem fits_cases {k n : Int} {s : ByteArray} {l : List V} {d : List (ByteArray × V)} (h : fitsV (.mk k n s l d) = true) : 1 ≤ k ∧ k ≤ 11 ∧ (k = 8 → s.size = 12) ∧ (k = 9 → n = 0 ∨ n = 1) := by
  rw [fitsV] at h
  split at h
  · subst k; omega
  · split at h
    · subst k; simp at h; omega
    · split at h
      · subst k; simp at h; omega
      · simp at h; omega

theorem szFrom_up (v : V) : ∀ n : Int, n ≤ szFrom n v := by
  induction v using V.ind with
  | h k m s l d ihl ihd =>
  intro n
  have hL : ∀ (r : List V) (i : Nat) (n : Int), (∀ x ∈ r, x ∈ l) → n ≤ szL n i r := by
    intro r
    induction r with
    | nil => intro i n _; simp [szL]
    | cons x r ih =>
      intro i n hm
      rw [szL]
      split
      · omega
      · have h1 := ih (i + 1) (szFrom (n + 2 + digN i) x) (fun y hy => hm y (by simp [hy]))
        have h2 := ihl x (hm x (by simp)) (n + 2 + digN i)
        omega
  have hD : ∀ (r : List (ByteArray × V)) (n : Int), (∀ x ∈ r, x ∈ d) → n ≤ szD n r := by
    intro r
    induction r with
    | nil => intro n _; simp [szD]
    | cons x r ih =>
      intro n hm
      obtain ⟨t, x⟩ := x
      rw [szD]
      split
      · omega
      · have h1 := ih (szFrom (n + 2 + t.size) x) (fun y hy => hm y (by simp [hy]))
        have h2 := ihd (t, x) (hm _ (by simp)) (n + 2 + t.size)
        simp only at h2
        omega
  rw [szFrom]
  have h1 := hL l 0 (n + 5) (fun x hx => hx)
  have h2 := hD d (n + 5) (fun x hx => hx)
  repeat' split
  all_goals omega
theorem szL_up (l : List V) : ∀ (i : Nat) (n : Int), n ≤ szL n i l := by
  induction l with
  | nil => intro i n; simp [szL]
  | cons x r ih =>
    intro i n
    rw [szL]
    split
    · omega
    · have h1 := ih (i + 1) (szFrom (n + 2 + digN i) x)
      have h2 := szFrom_up x (n + 2 + digN i)
      omega
theorem szD_up (l : List (ByteArray × V)) : ∀ n : Int, n ≤ szD n l := by
  induction l with
  | nil => intro n; simp [szD]
  | cons x r ih =>
    intro n
    obtain ⟨t, x⟩ := x
    rw [szD]
    split
    · omega
    · have h1 := ih (szFrom (n + 2 + t.size) x)
      have h2 := szFrom_up x (n + 2 + t.size)
      omega

/-- How long a right value's bytes may be. -/
theorem key_le (v : V) : ∀ (deep n : Int), rightV deep v = 0 → szFrom n v ≤ 65536 → ((keyV v).length : Int) ≤ 3 * (szFrom n v - n) + 3 := by
  induction v using V.ind with
  | h k m s l d ihl ihd =>
  intro deep n hr hs
  obtain ⟨⟨ha, hf⟩, hl, hd⟩ := right_parts hr
  obtain ⟨f1, f2, f8, f9⟩ := fits_cases hf
  rw [keyV, List.length_cons]
  rw [szFrom] at hs ⊢
  by_cases h : k = 3 ∨ k = 10
  · rw [if_pos h, if_pos h, beB_len]; omega
  · rw [if_neg h] at hs ⊢
    rw [if_neg h]
    have hT := keyT_le (bsI s)
    rw [bsI_len] at hT
    by_cases k9 : k = 9
    · rw [if_pos k9, if_neg (by omega), if_neg (by omega), if_pos k9]; simp; omega
    · rw [if_neg k9]
      by_cases k4 : k = 4 ∨ k = 7
      · rw [if_pos k4, if_pos k4]; omega
      · rw [if_neg k4] at hs ⊢; rw [if_neg k4]
        by_cases k8 : k = 8
        · rw [if_pos k8, if_pos k8, bsI_len, f8 k8]; omega
        · rw [if_neg k8] at hs ⊢; rw [if_neg k8]
          rw [if_neg k9] at hs ⊢
          by_cases k6 : k = 6
          · rw [if_pos k6]; rw [if_neg (by omega), if_pos k6] at hs ⊢
            have main : ∀ (r : List V) (i : Nat) (n : Int), (∀ x ∈ r, x ∈ l) → szL n i r ≤ 65536 → ((keyL r).length : Int) ≤ 3 * (szL n i r - n) + 1 := by
              intro r
              induction r with
              | nil => intro i n _ _; simp [keyL, szL]
              | cons x r ih =>
                intro i n hm hz
                rw [szL] at hz ⊢
                split at hz
                · omega
                · rename_i hn; rw [if_neg hn]
                  have h1 := ih (i + 1) _ (fun y hy => hm y (by simp [hy])) hz
                  have h3 : szFrom (n + 2 + digN i) x ≤ szL (szFrom (n + 2 + digN i) x) (i + 1) r := by
                    exact szL_up r _ _
                  have h2 := ihl x (hm x (by simp)) _ _ (hl x (hm x (by simp))) (show szFrom (n + 2 + digN i) x ≤ 65536 by omega)
                  rw [keyL, List.length_cons, List.length_append]
                  have h4 := digN_pos i
                  omega
            have := main l 0 (n + 5) (fun x hx => hx) hs
            omega
          · rw [if_neg k6]
            by_cases k5 : k = 5
            · rw [if_pos k5]; rw [if_pos k5] at hs ⊢
              have main : ∀ (r : List (ByteArray × V)) (n : Int), (∀ x ∈ r, x ∈ d) → szD n r ≤ 65536 → ((keyD r).length : Int) ≤ 3 * (szD n r - n) + 1 := by
                intro r
                induction r with
                | nil => intro n _ _; simp [keyD, szD]
                | cons x r ih =>
                  intro n hm hz
                  obtain ⟨s, x⟩ := x
                  rw [szD] at hz ⊢
                  split at hz
                  · omega
                  · rename_i hn; rw [if_neg hn]
                    have h1 := ih _ (fun y hy => hm y (by simp [hy])) hz
                    have h3 : szFrom (n + 2 + s.size) x ≤ szD (szFrom (n + 2 + s.size) x) r := szD_up r _
                    have h2 := ihd (s, x) (hm _ (by simp)) _ _ (hd _ (hm (s, x) (by simp))).2 (show szFrom (n + 2 + s.size) x ≤ 65536 by omega)
                    have hT := keyT_le (bsI s)
                    rw [bsI_len] at hT
                    rw [keyD, List.length_cons, List.length_append, List.length_append]
                    simp only at h2
                    omega
              have := main d (n + 5) (fun x hx => hx) hs
              omega
            · rw [if_neg k5]; rw [if_neg k5, if_neg k6]; simp
theorem key_short {v : V} (h : rightOf v = 0) : (keyV v).length ≤ 196611 := by
  unfold rightOf at h
  split at h
  · cases h
  · rename_i hs
    unfold sizeV at hs
    have := key_le v 1 0 h (by split at hs <;> omega)
    have h2 : szFrom 0 v ≤ 65536 := by split at hs <;> omega
    omega
end Go.Proofs.YtjfgmcmnpekahaaDoor
