/- Which frames stand: plain words. Frames laid into sectors, and turned: what is found. No program here. No statement is proved here. -/
import Derived.Test.YtophhnolnlbecaaDoorQ10
import Derived.Test.YtophhnolnlbecaaDoorQ8
import Derived.Test.YtophhnolnlbecaaDoorQ34
import Derived.Test.YtophhnolnlbecaaDoorQ19
namespace Go.Proofs.YtophhnolnlbecaaDoor
open Go.RowKit
set_option maxRecDepth 100000

/-- Bytes that begin with a head of that length: just one frame may stand there. -/
theorem stands_iff {h s r rest : List Int} {e : Int} {k : Nat} (hh : h.length = 16) (hs : s.length = 4) (h4 : h.take 4 = leB 4 (r.length : Int)) (hr : r.length ≤ 268435456) :
    standsN (h ++ (s ++ (r ++ rest))) e k = if jOk e ∧ k < 2147483648 ∧ h = jHead e k r ∧ s = leB 4 (moreP 0 (jHead e k r ++ r)) then 20 + r.length else 0 := by
  have hd : readP (h ++ (s ++ (r ++ rest))) 0 4 = (r.length : Int) := by
    have : h ++ (s ++ (r ++ rest)) = leB 4 (r.length : Int) ++ (h.drop 4 ++ (s ++ (r ++ rest))) := by rw [← h4, ← List.append_assoc (h.take 4), List.take_append_drop]
    rw [this]
    exact read4 (by omega) (by omega)
  have hl : (h ++ (s ++ (r ++ rest))).length = 20 + r.length + rest.length := by simp [hh, hs]; omega
  have h20 : (h ++ (s ++ (r ++ rest))).drop 20 = r ++ rest := by
    rw [← List.append_assoc]
    exact List.drop_left' (by rw [List.length_append, hh, hs])
  have ht : (h ++ (s ++ (r ++ rest))).take (20 + r.length) = h ++ (s ++ r) := by
    have : h ++ (s ++ (r ++ rest)) = (h ++ (s ++ r)) ++ rest := by simp
    rw [this]
    exact List.take_left' (by simp [hh, hs]; omega)
  unfold standsN
  rw [hd, Int.toNat_natCast, if_neg (by omega), if_neg (by omega), h20, List.take_left, ht]
  by_cases c : jOk e ∧ k < 2147483648
  · have hE : frE e k r.length = 0 := by
      unfold frE
      rw [if_neg (by intro h; rcases h with h | h | h; exact h c.1; omega; omega), if_neg (by omega)]
    unfold frL
    rw [if_pos hE]
    unfold jFrame
    by_cases c2 : h = jHead e k r ∧ s = leB 4 (moreP 0 (jHead e k r ++ r))
    · rw [if_pos (by rw [← c2.2, ← c2.1]), if_pos ⟨c.1, c.2, c2⟩]
    · rw [if_neg (fun h1 => c2 ?_), if_neg (fun h1 => c2 h1.2.2)]
      have e1 := List.append_inj h1 (by rw [jHead_len, hh])
      have e2 := List.append_inj e1.2 (by rw [leB_len, hs])
      exact ⟨e1.1.symm, e2.1.symm⟩
  · have hE : frE e k r.length ≠ 0 := by
      unfold frE
      rw [if_pos]
      · decide
      · by_cases c1 : jOk e
        · exact .inr (.inr (by have : ¬ k < 2147483648 := fun h => c ⟨c1, h⟩; omega))
        · exact .inl c1
    unfold frL
    rw [if_neg hE, if_neg (fun h1 => ?_), if_neg (fun h1 => c ⟨h1.1, h1.2.1⟩)]
    have := congrArg List.length h1
    rw [List.length_append, hh, List.length_nil] at this
    omega
theorem leB_inj {k : Nat} {a b : Int} (ha : 0 ≤ a) (ha2 : a < 256 ^ k) (hb : 0 ≤ b) (hb2 : b < 256 ^ k) (h : leB k a = leB k b) : a = b := by
  rw [← valB_of k ha ha2, ← valB_of k hb hb2, h]
theorem jHead_inj {e f : Int} {k j : Nat} {r : List Int} (he : jOk e) (hf : jOk f) (hk : k < 4294967296) (hj : j < 4294967296) (h : jHead e k r = jHead f j r) : e = f ∧ k = j := by
  unfold jHead at h
  unfold jOk at he hf
  have p8 : (256 : Int) ^ 8 = 18446744073709551616 := by decide
  have p4 : (256 : Int) ^ 4 = 4294967296 := by decide
  have e1 := (List.append_inj h rfl).2
  have e2 := List.append_inj e1 (by rw [leB_len, leB_len])
  have e3 := leB_inj (k := 4) (by omega) (by omega) (by omega) (by omega) e2.2
  exact ⟨leB_inj (k := 8) (by omega) (by omega) (by omega) (by omega) e2.1, by omega⟩
/-- A frame of another epoch or number does not stand. -/
theorem stands_other {e f : Int} {k j : Nat} {r rest : List Int} (he : jOk e) (hk : k < 2147483648) (hr : r.length ≤ 268435456) (hj : j < 2147483648) (hne : ¬ (e = f ∧ k = j)) : standsN (jFrame e k r ++ rest) f j = 0 := by
  have e1 : jFrame e k r ++ rest = jHead e k r ++ (leB 4 (moreP 0 (jHead e k r ++ r)) ++ (r ++ rest)) := by simp [jFrame]
  rw [e1, stands_iff (jHead_len _ _ _) (leB_len _ _) (by unfold jHead; exact List.take_left' (leB_len _ _)) hr, if_neg]
  rintro ⟨h1, -, h2, -⟩
  exact hne (jHead_inj he h1 (by omega) (by omega) h2)
/-- A frame with some bytes turned: it stands just if its sum's text is the same. -/
theorem stands_turned {e : Int} {k : Nat} {r h' r' rest : List Int} (he : jOk e) (hk : k < 2147483648) (hl : h'.length = 16) (hrl : r'.length = r.length) (h4 : h'.take 4 = leB 4 (r.length : Int)) (hr : r.length ≤ 268435456) (hB : isB (jHead e k r ++ r)) (hB' : isB (h' ++ r'))
    {same : Bool} (hsum : (moreP 0 (jHead e k r ++ r) == moreP 0 (h' ++ r')) = same) (hsame : same = true → h' ++ r' = jHead e k r ++ r) : (standsN (h' ++ (leB 4 (moreP 0 (jHead e k r ++ r)) ++ (r' ++ rest))) e k == 0) = !same := by
  have hjh : jHead e k r' = jHead e k r := by unfold jHead; rw [hrl]
  rw [stands_iff hl (leB_len _ _) (by rw [hrl]; exact h4) (by omega), hjh]
  cases same with
  | true =>
    obtain ⟨e1, e2⟩ := List.append_inj (hsame rfl) (by rw [hl, jHead_len])
    subst e1
    subst e2
    rw [if_pos ⟨he, hk, rfl, rfl⟩]
    simp
  | false =>
    rw [if_neg, show ((0 : Nat) == 0) = true from rfl]
    · rfl
    · rintro ⟨-, -, h1, h2⟩
      subst h1
      have p4 : (256 : Int) ^ 4 = 4294967296 := by decide
      have m1 := moreP_rng (s := 0) hB
      have m2 := moreP_rng (s := 0) hB'
      have := leB_inj (k := 4) (by omega) (by omega) (by omega) (by omega) h2
      rw [this] at hsum
      simp at hsum
end Go.Proofs.YtophhnolnlbecaaDoor
namespace Go.Proofs.YtophhnolnlbecaaDoor
open Go.RowKit
set_option maxRecDepth 100000

/-- A frame out of its sum's bytes and the row that is summed. -/
def asm (s row : List Int) : List Int := row.take 16 ++ (s ++ row.drop 16)
theorem asm_frame (e num : Int) (r : List Int) : jFrame e num r = asm (leB 4 (moreP 0 (jHead e num r ++ r))) (jHead e num r ++ r) := by
  unfold asm jFrame
  rw [List.take_left' (jHead_len _ _ _), List.drop_left' (jHead_len _ _ _)]
theorem asm_len {s row : List Int} : (asm s row).length = s.length + row.length := by
  unfold asm
  rw [List.length_append, List.length_append, List.length_take, List.length_drop]
  omega
theorem asm_set {s row : List Int} (hs : s.length = 4) (h16 : 16 ≤ row.length) {j : Nat} (x : Int) : (asm s row).set (if 16 ≤ j then j + 4 else j) x = asm s (row.set j x) := by
  have hl : (row.take 16).length = 16 := by rw [List.length_take]; omega
  unfold asm
  by_cases h : 16 ≤ j
  · rw [if_pos h, List.set_append_right _ _ (by omega), hl, List.set_append_right _ _ (by omega), hs, List.take_set_of_le h, show j + 4 - 16 - 4 = j - 16 by omega, List.drop_set, if_neg (by omega)]
  · rw [if_neg h, List.set_append_left _ _ (by omega), List.take_set, List.drop_set_of_lt (by omega)]
theorem asm_get {s row : List Int} (hs : s.length = 4) (h16 : 16 ≤ row.length) {j : Nat} : (asm s row)[if 16 ≤ j then j + 4 else j]? = row[j]? := by
  have hl : (row.take 16).length = 16 := by rw [List.length_take]; omega
  unfold asm
  by_cases h : 16 ≤ j
  · rw [if_pos h, List.getElem?_append_right (by omega), hl, List.getElem?_append_right (by omega), hs, List.getElem?_drop]
    congr 1
    omega
  · rw [if_neg h, List.getElem?_append_left (by omega), List.getElem?_take, if_pos (by omega)]
theorem numL_epoch {e : Int} (he : jOk e) : numL e 8 = leB 8 e := by
  unfold jOk at he
  have p8 : (256 : Int) ^ 8 = 18446744073709551616 := by decide
  exact numL_ok (s := 8) (by omega) (by omega) (by omega) (by omega)
/-- The sectors of a frame. -/
def stamps (e : Int) (F : List Int) : List Int := catF (stX (numL e 8) F) 0 ((F.length + 503) / 504)
theorem stamps_len {e : Int} (hp : (numL e 8).length ≤ 8) (F : List Int) : (stamps e F).length = 512 * ((F.length + 503) / 504) := catF_len (fun q => stX_len hp q) _ _
theorem stamps_is {e : Int} (he : jOk e) (F : List Int) : stamps e F = catF (secL e F) 0 ((F.length + 503) / 504) := by
  unfold stamps
  rw [numL_epoch he, show stX (leB 8 e) F = secL e F from funext fun q => stX_secL e F q]
theorem stamps_stream {e : Int} (he : jOk e) (F : List Int) : streamN e ((stamps e F).length / 512) (stamps e F) = F ++ List.replicate (504 * ((F.length + 503) / 504) - F.length) 0 := by
  rw [stamps_len (by rw [numL_epoch he, leB_len]; omega), stamps_is he]
  obtain ⟨k, hk⟩ : ∃ k, k = (F.length + 503) / 504 := ⟨_, rfl⟩
  have hk1 : F.length ≤ 504 * k := by omega
  rw [← hk, Nat.mul_div_cancel_left _ (by decide)]
  obtain ⟨K, h1, h2, h3, h4⟩ := stream_cat (X := secL e F) (fun q => secL_len e F q) e k 0
  have hK : K = k := by
    rcases h4 with h4 | h4
    · exact h4
    · exact absurd (secL_stamp he F _) h4
  rw [h2, hK]
  have hpl := partsF_len (X := secL e F) (fun q => secL_len e F q) k 0
  refine ext_gL (by rw [hpl, List.length_append, List.length_replicate]; omega) fun x hx => ?_
  rw [hpl] at hx
  rw [partsF_at (fun q => secL_len e F q) k 0 x hx, Nat.zero_add, secL_at _ _ _ (Nat.mod_lt _ (by decide)), show 504 * (x / 504) + x % 504 = x by omega]
  by_cases h : x < F.length
  · rw [if_pos h, gL_app_l h]
  · rw [if_neg h, gL_app_r (by omega), gL_zeros]
theorem stamps_other {e f : Int} (he : jOk e) (hne : e ≠ f) (F : List Int) : streamN f ((stamps e F).length / 512) (stamps e F) = [] := by
  rw [stamps_len (by rw [numL_epoch he, leB_len]; omega), stamps_is he, Nat.mul_div_cancel_left _ (by decide)]
  obtain ⟨K, h1, h2, h3, h4⟩ := stream_cat (X := secL e F) (fun q => secL_len e F q) f ((F.length + 503) / 504) 0
  rw [h2]
  cases K with
  | zero => rfl
  | succ K => exact absurd (h3 0 (by omega)) (other_stamp he hne _ _)
theorem scan_zero {T : List Int} {e : Int} (he : jOk e) : ((scanN T e).1.length == 0) = (standsN T e 0 == 0) := by
  unfold scanN
  rw [if_pos he, scanF, if_neg (by have : begins 0 = 0 := rfl; omega)]
  have h0 : T.drop (begins 0) = T := rfl
  rw [h0]
  by_cases h : standsN T e 0 = 0
  · have h' : standsN T e ((0 : Nat) : Int) = 0 := h
    rw [if_pos h', h]
    rfl
  · have h' : ¬ standsN T e ((0 : Nat) : Int) = 0 := h
    rw [if_neg h']
    have : (standsN T e 0 == 0) = false := by simp [h]
    rw [this]
    simp
theorem scan_not {T : List Int} {e : Int} (he : ¬ jOk e) : (scanN T e).1.length = 0 := by
  unfold scanN
  rw [if_neg he]
  rfl
theorem scan_empty (e : Int) : (scanN [] e).1.length = 0 := by
  by_cases he : jOk e
  · have h := scan_zero (T := []) he
    have h2 : standsN [] e 0 = 0 := rfl
    rw [h2] at h
    exact beq_iff_eq.1 h
  · exact scan_not he
theorem strmK_one (e : Int) (r : List Int) : strmK e [r] 1 = jFrame e 0 r := by
  unfold strmK strmK
  have : begins ([] : List Int).length = 0 := rfl
  rw [this]
  rfl
theorem scan_one {e : Int} (he : jOk e) {r : List Int} (hr : r.length ≤ 268435456) (z : Nat) : (scanN (jFrame e 0 r ++ List.replicate z 0) e).1.length = 1 := by
  have hs := strmK_one e r
  have h := scan_finds (e := e) (rs := [r]) (T := jFrame e 0 r ++ List.replicate z 0) (m := 1) he (Nat.le_refl _) (by rw [List.length_singleton]; omega) (fun x hx => by rw [List.mem_singleton.1 hx]; exact hr) (by rw [hs, List.take_left]) (by
    rw [hs]
    obtain ⟨p, hp⟩ : ∃ p, p = begins (jFrame e 0 r).length := ⟨_, rfl⟩
    have hb := begins_le (jFrame e 0 r).length
    rw [← hp] at hb ⊢
    by_cases hl : (jFrame e 0 r ++ List.replicate z 0).length < p
    · exact .inl hl
    · right
      have hd : (jFrame e 0 r ++ List.replicate z 0).drop p = List.replicate (z - (p - (jFrame e 0 r).length)) 0 := by
        rw [List.drop_append, List.drop_eq_nil_of_le hb.1, List.nil_append, List.drop_replicate]
      rw [hd]
      by_cases h20 : z - (p - (jFrame e 0 r).length) < 20
      · unfold standsN
        rw [if_pos (by rw [List.length_replicate]; exact h20)]
      · refine stands_zero he ?_
        rw [List.drop_replicate, List.take_replicate]
        congr 1
        omega)
  rw [h]
  rfl
/-- What is found of a frame in sectors of another epoch's, or asked for under another one. -/
theorem tells_l {e f : Int} (he : jOk e) {r : List Int} (hr : r.length ≤ 268435456) : ((scanN (streamN f ((stamps e (jFrame e 0 r)).length / 512) (stamps e (jFrame e 0 r))) f).1.length == 1) = decide (f = e) := by
  by_cases h : f = e
  · subst h
    rw [stamps_stream he, scan_one he hr, decide_eq_true rfl]
    rfl
  · rw [stamps_other he (fun h2 => h h2.symm), scan_empty, decide_eq_false h]
    rfl
theorem tells_m {e : Int} (he : jOk e) {r : List Int} (hr : r.length ≤ 268435456) : (scanN (streamN e ((stamps e (jFrame e 1 r)).length / 512) (stamps e (jFrame e 1 r))) e).1.length = 0 := by
  rw [stamps_stream he]
  have h := scan_zero (T := jFrame e 1 r ++ List.replicate (504 * (((jFrame e 1 r).length + 503) / 504) - (jFrame e 1 r).length) 0) he
  have h2 := stands_other (e := e) (f := e) (k := 1) (j := 0) (r := r) (rest := List.replicate (504 * (((jFrame e 1 r).length + 503) / 504) - (jFrame e 1 r).length) 0) he (by decide) hr (by decide) (fun h => absurd h.2 (by decide))
  have h3 : standsN (jFrame e 1 r ++ List.replicate (504 * (((jFrame e 1 r).length + 503) / 504) - (jFrame e 1 r).length) 0) e 0 = 0 := h2
  rw [h3] at h
  exact beq_iff_eq.1 h
theorem tells_k {e f : Int} (he : jOk e) {r : List Int} (hr : r.length ≤ 268435456) : ((scanN (streamN f ((stamps f (jFrame e 0 r)).length / 512) (stamps f (jFrame e 0 r))) f).1.length == 1) = decide (f = e) := by
  by_cases h : f = e
  · subst h
    exact tells_l he hr
  · rw [decide_eq_false h]
    by_cases hf : jOk f
    · rw [stamps_stream hf]
      have h1 := scan_zero (T := jFrame e 0 r ++ List.replicate (504 * (((jFrame e 0 r).length + 503) / 504) - (jFrame e 0 r).length) 0) hf
      have h3 : standsN (jFrame e 0 r ++ List.replicate (504 * (((jFrame e 0 r).length + 503) / 504) - (jFrame e 0 r).length) 0) f 0 = 0 := stands_other (e := e) (f := f) (k := 0) (j := 0) he (by decide) hr (by decide) (fun h2 => h h2.1.symm)
      rw [h3] at h1
      rw [beq_iff_eq.1 h1]
      rfl
    · rw [scan_not hf]
      rfl
/-- A frame with some bytes turned. -/
theorem tells_n {e : Int} (he : jOk e) {r : List Int} (hr : r.length ≤ 268435456) (hB : isB r) {K i : Nat} {d : List Int} {b : Bool} (h : Turned (jHead e 0 r ++ r) K i d b) (h4 : i ≤ 4) (hK : 4 ≤ K) :
    ((scanN (streamN e ((stamps e (asm (leB 4 (moreP 0 (jHead e 0 r ++ r))) ((jHead e 0 r ++ r).take K ++ (d ++ (jHead e 0 r ++ r).drop (K + i))))).length / 512) (stamps e (asm (leB 4 (moreP 0 (jHead e 0 r ++ r))) ((jHead e 0 r ++ r).take K ++ (d ++ (jHead e 0 r ++ r).drop (K + i)))))) e).1.length == 0) = !b := by
  have hBr : isB (jHead e 0 r ++ r) := (jHead_byte e 0 r).append2 hB
  have hend := turned_end h hBr h4
  have hrl : (jHead e 0 r ++ r).length = 16 + r.length := by rw [List.length_append, jHead_len]
  obtain ⟨row, hrow⟩ : ∃ row, row = (jHead e 0 r ++ r).take K ++ (d ++ (jHead e 0 r ++ r).drop (K + i)) := ⟨_, rfl⟩
  have hfits := h.fits
  have hl : row.length = 16 + r.length := by
    rw [hrow, List.length_append, List.length_append, h.len, List.length_take, List.length_drop, hrl]
    omega
  have hsame : b = true → row = jHead e 0 r ++ r := fun hb => by
    have h1 := h.same_
    rw [hb] at h1
    have h2 := of_decide_eq_true h1.symm
    rw [hrow, h2, show (jHead e 0 r ++ r).drop (K + i) = ((jHead e 0 r ++ r).drop K).drop i by rw [List.drop_drop], List.take_append_drop, List.take_append_drop]
  have hBrow : isB row := by
    rw [hrow]
    exact (hBr.take' K).append2 (h.byte.append2 (hBr.drop _))
  have ht4 : row.take 4 = leB 4 (r.length : Int) := by
    rw [hrow, List.take_append_of_le_length (by rw [List.length_take]; omega), List.take_take, Nat.min_eq_left hK, List.take_append_of_le_length (by rw [jHead_len]; omega)]
    unfold jHead
    exact List.take_left' (leB_len _ _)
  rw [← hrow] at hend ⊢
  rw [stamps_stream he, scan_zero he]
  have hst := stands_turned (e := e) (k := 0) (r := r) (h' := row.take 16) (r' := row.drop 16) (rest := List.replicate (504 * (((asm (leB 4 (moreP 0 (jHead e 0 r ++ r))) row).length + 503) / 504) - (asm (leB 4 (moreP 0 (jHead e 0 r ++ r))) row).length) 0) he (by decide) (by rw [List.length_take]; omega) (by rw [List.length_drop]; omega) (by rw [List.take_take]; exact ht4) hr hBr (by rw [List.take_append_drop]; exact hBrow) (same := b) (by rw [List.take_append_drop]; exact hend) (by rw [List.take_append_drop]; exact hsame)
  have hst2 : (standsN (row.take 16 ++ (leB 4 (moreP 0 (jHead e 0 r ++ r)) ++ (row.drop 16 ++ List.replicate (504 * (((asm (leB 4 (moreP 0 (jHead e 0 r ++ r))) row).length + 503) / 504) - (asm (leB 4 (moreP 0 (jHead e 0 r ++ r))) row).length) 0))) e 0 == 0) = !b := hst
  have e1 : ∀ z : List Int, asm (leB 4 (moreP 0 (jHead e 0 r ++ r))) row ++ z = row.take 16 ++ (leB 4 (moreP 0 (jHead e 0 r ++ r)) ++ (row.drop 16 ++ z)) := fun z => by unfold asm; simp only [List.append_assoc]
  rw [e1]
  exact hst2
end Go.Proofs.YtophhnolnlbecaaDoor
