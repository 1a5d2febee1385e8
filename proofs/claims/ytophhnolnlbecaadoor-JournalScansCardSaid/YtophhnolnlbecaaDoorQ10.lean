/- What a scan finds behind a loss of power: plain words. An area's sectors, their stream, what is found in them: plain words. A disk of sectors whose writes wait, as plain words: no program here. No statement is proved here. -/
import Derived.Test.YtophhnolnlbecaaDoorQ9
namespace Go.Proofs.YtophhnolnlbecaaDoor
open Go.RowKit
set_option maxRecDepth 100000

def gL (l : List Int) (x : Nat) : Int := l[x]?.getD 0
theorem gL_app_l {a b : List Int} {x : Nat} (h : x < a.length) : gL (a ++ b) x = gL a x := by unfold gL; rw [List.getElem?_append_left h]
theorem gL_app_r {a b : List Int} {x : Nat} (h : a.length ≤ x) : gL (a ++ b) x = gL b (x - a.length) := by unfold gL; rw [List.getElem?_append_right h]
theorem gL_zeros (n x : Nat) : gL (List.replicate n 0) x = 0 := by
  unfold gL
  rw [List.getElem?_replicate]
  split <;> rfl
theorem gL_out {l : List Int} {x : Nat} (h : l.length ≤ x) : gL l x = 0 := by unfold gL; rw [List.getElem?_eq_none h]; rfl
theorem gL_take {l : List Int} {n x : Nat} (h : x < n) : gL (l.take n) x = gL l x := by unfold gL; rw [List.getElem?_take, if_pos h]
theorem gL_drop (l : List Int) (n x : Nat) : gL (l.drop n) x = gL l (n + x) := by unfold gL; rw [List.getElem?_drop]
theorem ext_gL {a b : List Int} (hl : a.length = b.length) (h : ∀ x, x < a.length → gL a x = gL b x) : a = b := by
  refine List.ext_getElem hl fun x h1 h2 => ?_
  have := h x h1
  unfold gL at this
  rw [List.getElem?_eq_getElem h1, List.getElem?_eq_getElem h2] at this
  exact this
theorem last_of {P : Nat → Prop} {M : Nat} : ∀ (d lo : Nat), lo + d = M → P lo → ∃ m, lo ≤ m ∧ m ≤ M ∧ P m ∧ (m = M ∨ ¬ P (m + 1))
  | 0, lo, h, hp => by
    have h2 : lo = M := h
    exact ⟨lo, Nat.le_refl _, Nat.le_of_eq h2, hp, .inl h2⟩
  | d + 1, lo, h, hp => by
    rcases Classical.em (P (lo + 1)) with h1 | h1
    · obtain ⟨m, a, b, c⟩ := last_of (M := M) d (lo + 1) (by omega) h1
      exact ⟨m, by omega, b, c⟩
    · exact ⟨lo, Nat.le_refl _, by omega, hp, .inr h1⟩
section
variable {e : Int} {rs : List (List Int)}
theorem strmK_mono {i j : Nat} (h : i ≤ j) : (strmK e rs i).length ≤ (strmK e rs j).length := by
  induction j with
  | zero => rw [show i = 0 by omega]; exact Nat.le_refl _
  | succ j ih =>
    by_cases e1 : i = j + 1
    · rw [e1]; exact Nat.le_refl _
    · have := ih (by omega)
      have := strmK_grows e rs j
      omega
theorem strmK_less {i j : Nat} (h : (strmK e rs i).length < (strmK e rs j).length) : i < j := by
  rcases Nat.lt_or_ge i j with h1 | h1
  · exact h1
  · have := strmK_mono (e := e) (rs := rs) h1
    omega
theorem strmK_at {i j : Nat} (h : i ≤ j) {x : Nat} (hx : x < (strmK e rs i).length) : gL (strmK e rs j) x = gL (strmK e rs i) x := by
  induction j with
  | zero => rw [show i = 0 by omega]
  | succ j ih =>
    by_cases e1 : i = j + 1
    · rw [e1]
    · rw [strmK, gL_app_l (by have := strmK_mono (e := e) (rs := rs) (show i ≤ j by omega); omega)]
      exact ih (by omega)
/-- Between two frames there are zeros. -/
theorem strmK_gap {k x : Nat} (h1 : (strmK e rs k).length ≤ x) (h2 : x < begins (strmK e rs k).length) : gL (strmK e rs (k + 1)) x = 0 := by
  rw [strmK, gL_app_r h1, gL_app_l (by rw [List.length_replicate]; omega)]
  exact gL_zeros _ _
/-- A frame in the stream. -/
theorem strmK_frame {k x : Nat} (h : begins (strmK e rs k).length ≤ x) : gL (strmK e rs (k + 1)) x = gL (jFrame e k (rs[k]?.getD [])) (x - begins (strmK e rs k).length) := by
  have := begins_le (strmK e rs k).length
  rw [strmK, gL_app_r (by omega), gL_app_r (by rw [List.length_replicate]; omega), List.length_replicate]
  congr 1
  omega
theorem crash_scan {T : List Int} {K lo : Nat} {v : Nat → Nat} (he : jOk e) (h31 : rs.length < 2147483648) (hlen : ∀ r ∈ rs, r.length ≤ 268435456) (hTl : T.length = 504 * K) (hv : ∀ q, q < K → v q ≤ rs.length ∧ 504 * q < (strmK e rs (v q)).length)
    (hT : ∀ x, x < 504 * K → gL T x = if x < (strmK e rs (v (x / 504))).length then gL (strmK e rs rs.length) x else 0) (hlo : lo ≤ rs.length) (hsafe : ∀ q, 504 * q < (strmK e rs lo).length → q < K ∧ lo ≤ v q) :
    ∃ m, lo ≤ m ∧ m ≤ rs.length ∧ (strmK e rs m).length ≤ 504 * K ∧ scanN T e = (rs.take m, (strmK e rs m).length) := by
  have there : ∀ m, m ≤ rs.length → (strmK e rs m).length ≤ T.length → (∀ x, x < (strmK e rs m).length → gL T x = gL (strmK e rs rs.length) x) → T.take (strmK e rs m).length = strmK e rs m := fun m hm hl h => by
    refine ext_gL (by rw [List.length_take]; omega) fun x hx => ?_
    rw [List.length_take] at hx
    rw [gL_take (by omega), h x (by omega), strmK_at hm (by omega)]
  have hP0 : T.take (strmK e rs lo).length = strmK e rs lo := by
    have hK : (strmK e rs lo).length ≤ 504 * K := by
      rcases Nat.lt_or_ge (504 * K) (strmK e rs lo).length with h | h
      · have := (hsafe K h).1; omega
      · exact h
    refine there lo hlo (by omega) fun x hx => ?_
    have hq := hsafe (x / 504) (by omega)
    rw [hT x (by omega), if_pos (Nat.lt_of_lt_of_le hx (strmK_mono hq.2))]
  obtain ⟨m, hm1, hm2, hPm, hmax⟩ := last_of (P := fun m => T.take (strmK e rs m).length = strmK e rs m) (M := rs.length) (rs.length - lo) lo (by omega) hP0
  refine ⟨m, hm1, hm2, by have := congrArg List.length hPm; rw [List.length_take] at this; omega, scan_finds he hm2 h31 hlen hPm ?_⟩
  have hb := begins_le (strmK e rs m).length
  have hf := begins_fits (strmK e rs m).length
  generalize hp : begins (strmK e rs m).length = p at *
  have short : (T.drop p).length < 20 → standsN (T.drop p) e m = 0 := fun h => by unfold standsN; rw [if_pos h]
  -- where the head's bytes are zeros
  have zeros : p / 504 < K → (∀ x, p ≤ x → x < p + 20 → gL T x = 0) → standsN (T.drop p) e m = 0 := fun hK h => by
    refine stands_zero he (ext_gL ?_ fun x hx => ?_)
    · rw [List.length_take, List.length_drop, List.length_drop, List.length_replicate]
      omega
    · rw [List.length_take] at hx
      rw [gL_take (by omega), gL_drop, gL_drop, h _ (by omega) (by omega), gL_zeros]
  by_cases hK : K ≤ p / 504
  · exact .inr (short (by rw [List.length_drop]; omega))
  · right
    have hK : p / 504 < K := by omega
    have hvq := hv _ hK
    have hsec : ∀ x, p ≤ x → x < p + 20 → x / 504 = p / 504 := fun x h1 h2 => by omega
    rcases Nat.lt_or_ge m (v (p / 504)) with hvm | hvm
    · -- the head is there
      have hmM : m < rs.length := by omega
      have hmax : ¬ T.take (strmK e rs (m + 1)).length = strmK e rs (m + 1) := by
        rcases hmax with h | h
        · omega
        · exact h
      have hL := strmK_len e rs m
      rw [hp] at hL
      have hcut : T.length < (strmK e rs (m + 1)).length := by
        rcases Nat.lt_or_ge T.length (strmK e rs (m + 1)).length with h | h
        · exact h
        · exfalso
          refine hmax (there (m + 1) hmM h fun x hx => ?_)
          by_cases h1 : x < (strmK e rs m).length
          · rw [strmK_at hm2 h1]
            have h2 : gL (T.take (strmK e rs m).length) x = gL T x := gL_take h1
            rw [← h2, hPm]
          · by_cases h2 : x < p
            · have h3 : gL (strmK e rs rs.length) x = 0 := by
                rw [strmK_at (show m + 1 ≤ rs.length from hmM) hx]
                exact strmK_gap (by omega) (by rw [hp]; exact h2)
              rw [hT x (by omega), h3]
              split <;> rfl
            · have hvx : m + 1 ≤ v (x / 504) := by
                by_cases h3 : x / 504 = p / 504
                · rw [h3]; exact hvm
                · have h4 := (hv (x / 504) (by omega)).2
                  exact strmK_less (e := e) (rs := rs) (by omega)
              rw [hT x (by omega), if_pos (Nat.lt_of_lt_of_le hx (strmK_mono hvx))]
      refine stands_cut (n := (rs[m]?.getD []).length) (ext_gL ?_ fun x hx => ?_) ?_ (by rw [List.length_drop]; omega)
      · rw [List.length_take, List.length_drop, leB_len]
        omega
      · rw [List.length_take] at hx
        have hx2 : p + x < (strmK e rs (m + 1)).length := by omega
        rw [gL_take (by omega), gL_drop, hT (p + x) (by omega), hsec (p + x) (by omega) (by omega), if_pos (Nat.lt_of_lt_of_le hx2 (strmK_mono hvm)), strmK_at (show m + 1 ≤ rs.length from hmM) hx2, strmK_frame (by rw [hp]; omega), hp, Nat.add_sub_cancel_left]
        unfold jFrame jHead
        rw [List.append_assoc, gL_app_l (by rw [leB_len]; omega)]
      · have := hlen (rs[m]?.getD []) (by rw [List.getElem?_eq_getElem hmM]; exact List.getElem_mem _)
        omega
    · refine zeros hK fun x h1 h2 => ?_
      have := strmK_mono (e := e) (rs := rs) hvm
      rw [hT x (by omega), hsec x h1 h2, if_neg (by omega)]
end
end Go.Proofs.YtophhnolnlbecaaDoor
namespace Go.Proofs.YtophhnolnlbecaaDoor
open Go.RowKit
set_option maxRecDepth 100000

/-- Sectors one behind another; their parts. -/
def catF (X : Nat → List Int) : Nat → Nat → List Int
  | _, 0 => []
  | i, n + 1 => X i ++ catF X (i + 1) n
def partsF (X : Nat → List Int) : Nat → Nat → List Int
  | _, 0 => []
  | i, n + 1 => (X i).drop 8 ++ partsF X (i + 1) n
def stampIs (r : List Int) (e : Int) : Prop := readE r 0 8 = 0 ∧ readP r 0 8 = e
/-- A sector of a stream. -/
def secL (e : Int) (S : List Int) (q : Nat) : List Int := leB 8 e ++ ((S.drop (504 * q)).take 504 ++ List.replicate (504 - (S.length - 504 * q)) 0)
theorem secL_len (e : Int) (S : List Int) (q : Nat) : (secL e S q).length = 512 := by
  simp [secL, leB_len]
  omega
theorem secL_stamp {e : Int} (he : jOk e) (S : List Int) (q : Nat) : stampIs (secL e S q) e := by
  have h := read8 (a := []) (c := (S.drop (504 * q)).take 504 ++ List.replicate (504 - (S.length - 504 * q)) 0) (n := e) (k := 0) rfl (by unfold jOk at he; omega) (by unfold jOk at he; omega)
  exact ⟨h.2, h.1⟩
theorem secL_at (e : Int) (S : List Int) (q : Nat) {y : Nat} (hy : y < 504) : gL (secL e S q) (8 + y) = if 504 * q + y < S.length then gL S (504 * q + y) else 0 := by
  unfold secL
  rw [gL_app_r (by rw [leB_len]; omega), leB_len, Nat.add_sub_cancel_left]
  have hl : ((S.drop (504 * q)).take 504).length = min 504 (S.length - 504 * q) := by rw [List.length_take, List.length_drop]
  by_cases h : 504 * q + y < S.length
  · rw [if_pos h, gL_app_l (by omega), gL_take hy, gL_drop]
  · rw [if_neg h, gL_app_r (by omega)]
    exact gL_zeros _ _
section
variable {X : Nat → List Int}
theorem catF_len (hX : ∀ i, (X i).length = 512) : ∀ n i, (catF X i n).length = 512 * n
  | 0, i => rfl
  | n + 1, i => by rw [catF, List.length_append, hX, catF_len hX n (i + 1)]; omega
theorem partsF_len (hX : ∀ i, (X i).length = 512) : ∀ n i, (partsF X i n).length = 504 * n
  | 0, i => rfl
  | n + 1, i => by rw [partsF, List.length_append, List.length_drop, hX, partsF_len hX n (i + 1)]; omega
theorem partsF_at (hX : ∀ i, (X i).length = 512) : ∀ (n i x : Nat), x < 504 * n → gL (partsF X i n) x = gL (X (i + x / 504)) (8 + x % 504)
  | 0, i, x, h => by omega
  | n + 1, i, x, h => by
    rw [partsF]
    by_cases h1 : x < 504
    · rw [gL_app_l (by rw [List.length_drop, hX]; omega), gL_drop, show x / 504 = 0 by omega, Nat.mod_eq_of_lt h1, Nat.add_zero]
    · rw [gL_app_r (by rw [List.length_drop, hX]; omega), List.length_drop, hX, partsF_at hX n (i + 1) (x - (512 - 8)) (by omega)]
      have e1 : i + 1 + (x - (512 - 8)) / 504 = i + x / 504 := by omega
      have e2 : (x - (512 - 8)) % 504 = x % 504 := by omega
      rw [e1, e2]
theorem stamp_app {r rest : List Int} (hr : r.length = 512) : readE (r ++ rest) 0 8 = readE r 0 8 ∧ readP (r ++ rest) 0 8 = readP r 0 8 := by
  have hc : cutB (r ++ rest) 0 8 = cutB r 0 8 := by
    unfold cutB
    show ((r ++ rest).drop 0).take 8 = (r.drop 0).take 8
    rw [List.drop_zero, List.drop_zero, List.take_append_of_le_length (by omega)]
  have h1 : argR (r ++ rest) 0 8 = argR r 0 8 := by
    unfold argR
    rw [List.length_append, hr]
    simp
    omega
  have h2 : lenR (r ++ rest) 0 8 = lenR r 0 8 := by
    unfold lenR
    rw [List.length_append, hr]
    simp
    omega
  have h3 : topR (r ++ rest) 0 8 = topR r 0 8 := by unfold topR; rw [hc]
  have hE : readE (r ++ rest) 0 8 = readE r 0 8 := by unfold readE; rw [h1, h2, h3]
  exact ⟨hE, by unfold readP; rw [hE, hc]⟩
/-- The stream of sectors: those up to the first of another stamp. -/
theorem stream_cat (hX : ∀ i, (X i).length = 512) (e : Int) : ∀ (n i : Nat), ∃ K, K ≤ n ∧ streamN e n (catF X i n) = partsF X i K ∧ (∀ q, q < K → stampIs (X (i + q)) e) ∧ (K = n ∨ ¬ stampIs (X (i + K)) e)
  | 0, i => ⟨0, Nat.le_refl _, rfl, fun q h => by omega, .inl rfl⟩
  | n + 1, i => by
    have hs := stamp_app (r := X i) (rest := catF X (i + 1) n) (hX i)
    rw [streamN, catF, if_neg (by rw [List.length_append, hX]; omega), hs.1, hs.2]
    by_cases h : readE (X i) 0 8 = 0 ∧ readP (X i) 0 8 = e
    · obtain ⟨K, h1, h2, h3, h4⟩ := stream_cat hX e n (i + 1)
      refine ⟨K + 1, by omega, ?_, fun q hq => ?_, ?_⟩
      · rw [if_pos h, partsF, List.drop_append_of_le_length (by rw [hX]; omega), List.take_append_of_le_length (by rw [List.length_drop, hX]; omega), List.take_of_length_le (by rw [List.length_drop, hX]; omega), List.drop_left' (hX i), h2]
      · cases q with
        | zero => exact h
        | succ q => rw [show i + (q + 1) = i + 1 + q by omega]; exact h3 q (by omega)
      · rcases h4 with h4 | h4
        · exact .inl (by omega)
        · exact .inr (by rw [show i + (K + 1) = i + 1 + K by omega]; exact h4)
    · exact ⟨0, by omega, by rw [if_neg h]; rfl, fun q h => by omega, .inr (by rw [Nat.add_zero]; exact h)⟩
/-- What is found in an area each of whose sectors is a state of the stream, or another's. -/
theorem area_scan {e : Int} {rs : List (List Int)} {n lo : Nat} (hX : ∀ i, (X i).length = 512) (he : jOk e) (h31 : rs.length < 2147483648) (hlen : ∀ r ∈ rs, r.length ≤ 268435456) (hlo : lo ≤ rs.length) (hn : (strmK e rs lo).length ≤ 504 * n)
    (hv : ∀ q, q < n → (¬ stampIs (X q) e ∧ (strmK e rs lo).length ≤ 504 * q) ∨ ∃ i, lo ≤ i ∧ i ≤ rs.length ∧ 504 * q < (strmK e rs i).length ∧ X q = secL e (strmK e rs i) q) :
    ∃ m, lo ≤ m ∧ m ≤ rs.length ∧ (strmK e rs m).length ≤ 504 * n ∧ scanN (streamN e n (catF X 0 n)) e = (rs.take m, (strmK e rs m).length) := by
  obtain ⟨K, hK, hs, hst, hend⟩ := stream_cat hX e n 0
  rw [hs]
  have hv2 : ∀ q, ∃ i, q < K → lo ≤ i ∧ i ≤ rs.length ∧ 504 * q < (strmK e rs i).length ∧ X q = secL e (strmK e rs i) q := fun q => by
    by_cases hq : q < K
    · rcases hv q (by omega) with h | ⟨i, h⟩
      · have := hst q hq
        rw [Nat.zero_add] at this
        exact absurd this h.1
      · exact ⟨i, fun _ => h⟩
    · exact ⟨0, fun h => absurd h hq⟩
  suffices h : ∃ m, lo ≤ m ∧ m ≤ rs.length ∧ (strmK e rs m).length ≤ 504 * K ∧ scanN (partsF X 0 K) e = (rs.take m, (strmK e rs m).length) by
    obtain ⟨m, a, b, c, f⟩ := h
    exact ⟨m, a, b, by omega, f⟩
  refine crash_scan (K := K) (v := fun q => (hv2 q).choose) he h31 hlen (partsF_len hX K 0) (fun q hq => ⟨((hv2 q).choose_spec hq).2.1, ((hv2 q).choose_spec hq).2.2.1⟩) (fun x hx => ?_) hlo fun q hq => ?_
  · have hq : x / 504 < K := by omega
    have h := (hv2 (x / 504)).choose_spec hq
    rw [partsF_at hX K 0 x hx, Nat.zero_add]
    generalize (hv2 (x / 504)).choose = i at *
    rw [h.2.2.2, secL_at _ _ _ (Nat.mod_lt _ (by decide)), show 504 * (x / 504) + x % 504 = x by omega]
    by_cases h2 : x < (strmK e rs i).length
    · rw [if_pos h2, if_pos h2, strmK_at h.2.1 h2]
    · rw [if_neg h2, if_neg h2]
  · have hqn : q < n := by omega
    have hqK : q < K := by
      rcases Nat.lt_or_ge q K with h | h
      · exact h
      · exfalso
        have hKn : K < n := by omega
        rcases hend with h2 | h2
        · omega
        · rw [Nat.zero_add] at h2
          rcases hv K hKn with h3 | ⟨i, -, -, -, h3⟩
          · have := h3.2
            omega
          · rw [h3] at h2
            exact h2 (secL_stamp he _ _)
    exact ⟨hqK, ((hv2 q).choose_spec hqK).1⟩
end
/-- A page's rows are sectors one behind another. -/
theorem catF_snoc (X : Nat → List Int) : ∀ (n i : Nat), catF X i (n + 1) = catF X i n ++ X (i + n)
  | 0, i => by simp [catF]
  | n + 1, i => by
    rw [catF, catF_snoc X n (i + 1), catF, List.append_assoc, show i + 1 + n = i + (n + 1) by omega]
end Go.Proofs.YtophhnolnlbecaaDoor
namespace Go.Proofs.YtophhnolnlbecaaDoor
/-- What stands in some sectors. -/
abbrev Secs := Nat → Option (List Int)
def upd (f : Secs) (k : Nat) (r : List Int) : Secs := fun i => if i = k then some r else f i
theorem upd_same (f : Secs) (k : Nat) (r : List Int) : upd f k r k = some r := by simp [upd]
theorem upd_other (f : Secs) {k i : Nat} (r : List Int) (h : i ≠ k) : upd f k r i = f i := by simp [upd, h]
/-- Writes laid over it, one behind another. -/
def over (f : Secs) (l : List (Nat × List Int)) : Secs := l.foldl (fun f p => upd f p.1 p.2) f
theorem over_nil (f : Secs) : over f [] = f := rfl
theorem over_cons (f : Secs) (k : Nat) (r : List Int) (l : List (Nat × List Int)) : over f ((k, r) :: l) = over (upd f k r) l := rfl
theorem over_snoc (f : Secs) (l : List (Nat × List Int)) (k : Nat) (r : List Int) : over f (l ++ [(k, r)]) = upd (over f l) k r := by simp [over]
/-- What it comes to hangs at each place on what was there alone. -/
theorem over_at {f g : Secs} (l : List (Nat × List Int)) {i : Nat} (h : f i = g i) : over f l i = over g l i := by
  induction l generalizing f g with
  | nil => exact h
  | cons p l ih =>
    refine ih (f := upd f p.1 p.2) (g := upd g p.1 p.2) ?_
    by_cases e : i = p.1
    · rw [e, upd_same, upd_same]
    · rw [upd_other _ _ e, upd_other _ _ e]; exact h
/-- The writes but those of a sector. -/
def but (l : List (Nat × List Int)) (k : Nat) : List (Nat × List Int) := l.filter fun p => decide (p.1 ≠ k)
theorem over_but_other (f : Secs) (l : List (Nat × List Int)) {k i : Nat} (h : i ≠ k) : over f (but l k) i = over f l i := by
  induction l generalizing f with
  | nil => rfl
  | cons p l ih =>
    unfold but
    by_cases e : p.1 = k
    · rw [List.filter_cons_of_neg (by simp [e])]
      refine (ih f).trans (over_at (f := f) (g := upd f p.1 p.2) l (upd_other _ _ (by rw [e]; exact h)).symm)
    · rw [List.filter_cons_of_pos (by simp [e])]
      exact ih _
theorem over_but_same (f : Secs) (l : List (Nat × List Int)) (k : Nat) : over f (but l k) k = f k := by
  induction l generalizing f with
  | nil => rfl
  | cons p l ih =>
    unfold but
    by_cases e : p.1 = k
    · rw [List.filter_cons_of_neg (by simp [e])]
      exact ih f
    · rw [List.filter_cons_of_pos (by simp [e])]
      exact (ih _).trans (upd_other _ _ (fun h => e h.symm))
/-- The writes that stay in a loss of power. -/
def stay : List (Nat × List Int) → List Bool → List (Nat × List Int)
  | p :: l, b :: bs => if b then p :: stay l bs else stay l bs
  | _, _ => []
/-- A disk. -/
structure Dk where
  many : Nat
  safe : Secs
  now : Secs
  wait : List (Nat × List Int)
  armed : Bool
  acts : Nat
  done : Bool
  down : Bool
def zeroRow : List Int := List.replicate 512 0
/-- What is read is what waits, over what is safe; a sector has 512 bytes. -/
structure Dk.ok (d : Dk) : Prop where
  now : ∀ k, d.now k = over d.safe d.wait k
  rowS : ∀ k r, d.safe k = some r → r.length = 512 ∧ k < d.many
  rowW : ∀ p ∈ d.wait, p.2.length = 512 ∧ p.1 < d.many
def Dk.new (n : Nat) : Dk := ⟨n, fun _ => none, fun _ => none, [], false, 0, false, false⟩
theorem Dk.new_ok (n : Nat) : (Dk.new n).ok := ⟨fun _ => rfl, fun _ _ h => (by cases h), fun _ h => (by cases h)⟩
theorem over_rows {f : Secs} {l : List (Nat × List Int)} {n : Nat} (hf : ∀ k r, f k = some r → r.length = 512 ∧ k < n) (hl : ∀ p ∈ l, p.2.length = 512 ∧ p.1 < n) : ∀ k r, over f l k = some r → r.length = 512 ∧ k < n := by
  induction l generalizing f with
  | nil => exact hf
  | cons p l ih =>
    refine ih (f := upd f p.1 p.2) (fun k r h => ?_) fun q hq => hl q (by simp [hq])
    by_cases e : k = p.1
    · rw [e, upd_same] at h
      injection h with h
      subst h
      rw [e]
      exact hl p (by simp)
    · rw [upd_other _ _ e] at h
      exact hf k r h
theorem Dk.ok.rowN {d : Dk} (h : d.ok) : ∀ k r, d.now k = some r → r.length = 512 ∧ k < d.many := fun k r e => over_rows h.rowS h.rowW k r (by rw [← h.now k]; exact e)
/-- The switch set. -/
def Dk.arm (d : Dk) (acts : Int) (done : Bool) : Dk := { d with armed := true, acts := acts.toNat, done := done }
theorem Dk.arm_ok {d : Dk} (h : d.ok) (a : Int) (b : Bool) : (d.arm a b).ok := ⟨h.now, h.rowS, h.rowW⟩
/-- A loss of power. -/
def Dk.crash (d : Dk) (keep : List Bool) : Dk := { d with safe := over d.safe (stay d.wait keep), now := over d.safe (stay d.wait keep), wait := [], armed := false, down := false }
theorem stay_mem {l : List (Nat × List Int)} {bs : List Bool} {p : Nat × List Int} (h : p ∈ stay l bs) : p ∈ l := by
  induction l generalizing bs with
  | nil => cases bs <;> simp [stay] at h
  | cons q l ih => cases bs with
    | nil => simp [stay] at h
    | cons b bs =>
      rw [stay] at h
      by_cases hb : b = true
      · rw [if_pos hb] at h
        rcases List.mem_cons.1 h with e | h
        · rw [e]; simp
        · exact List.mem_cons_of_mem _ (ih h)
      · rw [if_neg hb] at h
        exact List.mem_cons_of_mem _ (ih h)
theorem Dk.crash_ok {d : Dk} (h : d.ok) (keep : List Bool) : (d.crash keep).ok :=
  ⟨fun _ => rfl, over_rows h.rowS fun p hp => h.rowW p (stay_mem hp), fun _ hp => (by cases hp)⟩
/-- Bytes as a sector has them. -/
def asRow (l : List Int) : List Int := l.take 512 ++ List.replicate (512 - l.length) 0
theorem asRow_len (l : List Int) : (asRow l).length = 512 := by
  rw [asRow, List.length_append, List.length_take, List.length_replicate]; omega
/-- Bytes planted. -/
def Dk.plant (d : Dk) (at_ : Int) (l : List Int) : Dk :=
  if 0 ≤ at_ ∧ at_ < d.many then { d with safe := upd d.safe at_.toNat (asRow l), now := upd d.now at_.toNat (asRow l), wait := but d.wait at_.toNat } else d
theorem Dk.plant_ok {d : Dk} (h : d.ok) (at_ : Int) (l : List Int) : (d.plant at_ l).ok := by
  unfold Dk.plant
  by_cases c : 0 ≤ at_ ∧ at_ < d.many
  · rw [if_pos c]
    refine ⟨fun k => ?_, fun k r e => ?_, fun p hp => h.rowW p (List.mem_filter.1 hp).1⟩
    · by_cases e : k = at_.toNat
      · rw [e]
        exact (upd_same _ _ _).trans ((over_but_same _ _ _).trans (upd_same _ _ _)).symm
      · refine (upd_other _ _ e).trans ((h.now k).trans ?_)
        rw [over_but_other _ _ e]
        exact over_at _ (upd_other _ _ e).symm
    · by_cases e2 : k = at_.toNat
      · rw [e2] at e
        have e := (upd_same _ _ _).symm.trans e
        injection e with e
        rw [← e, e2]
        exact ⟨asRow_len l, show at_.toNat < d.many by omega⟩
      · exact h.rowS k r ((upd_other _ _ e2).symm.trans e)
  · rw [if_neg c]; exact h
/-- A sector as it is read. -/
def Dk.look (d : Dk) (k : Nat) : List Int := (d.now k).getD zeroRow
theorem Dk.ok.look_len {d : Dk} (h : d.ok) (k : Nat) : (d.look k).length = 512 := by
  unfold Dk.look
  cases e : d.now k with
  | none => exact List.length_replicate
  | some r => exact (h.rowN k r e).1
/-- An act: is it carried out; does the disk go down on it; the disk ahead of it. -/
def Dk.goes (d : Dk) : Bool := d.armed && d.acts == 0
def Dk.acted (d : Dk) : Dk := if d.goes then { d with down := true } else if d.armed then { d with acts := d.acts - 1 } else d
def Dk.does (d : Dk) : Bool := if d.goes then d.done else true
/-- An act's error. -/
def Dk.errA (d : Dk) : Int := if d.goes then 5 else 0
/-- A sector's bytes written: the error, and the disk. -/
def Dk.badW (d : Dk) (at_ : Int) (n : Nat) : Bool := !(decide (0 ≤ at_ ∧ at_ < d.many) && n == 512)
def Dk.put (d : Dk) (k : Nat) (l : List Int) : Dk := { d with now := upd d.now k l, wait := d.wait ++ [(k, l)] }
def Dk.writeE (d : Dk) (at_ : Int) (l : List Int) : Int := if d.down then 5 else if d.badW at_ l.length then 1 else d.errA
def Dk.write (d : Dk) (at_ : Int) (l : List Int) : Dk := if d.down then d else if d.badW at_ l.length then d else if d.does then d.acted.put at_.toNat l else d.acted
theorem Dk.acted_ok {d : Dk} (h : d.ok) : d.acted.ok := by
  unfold Dk.acted
  split
  · exact ⟨h.now, h.rowS, h.rowW⟩
  · split
    · exact ⟨h.now, h.rowS, h.rowW⟩
    · exact h
theorem Dk.acted_many (d : Dk) : d.acted.many = d.many := by
  unfold Dk.acted
  split
  · rfl
  · split <;> rfl
theorem Dk.put_ok {d : Dk} (h : d.ok) {k : Nat} {l : List Int} (hk : k < d.many) (hl : l.length = 512) : (d.put k l).ok := by
  refine ⟨fun i => ?_, h.rowS, fun p hp => ?_⟩
  · show upd d.now k l i = over d.safe (d.wait ++ [(k, l)]) i
    rw [over_snoc]
    by_cases e : i = k
    · rw [e, upd_same, upd_same]
    · rw [upd_other _ _ e, upd_other _ _ e, h.now]
  · rcases List.mem_append.1 hp with hp | hp
    · exact h.rowW p hp
    · rw [List.mem_singleton] at hp
      subst hp
      exact ⟨hl, hk⟩
theorem Dk.badW_no {d : Dk} {at_ : Int} {n : Nat} (h : d.badW at_ n = false) : 0 ≤ at_ ∧ at_ < d.many ∧ n = 512 := by
  unfold Dk.badW at h
  simp at h
  omega
theorem Dk.write_ok {d : Dk} (h : d.ok) (at_ : Int) (l : List Int) : (d.write at_ l).ok := by
  unfold Dk.write
  by_cases h1 : d.down = true
  · rw [if_pos h1]; exact h
  rw [if_neg h1]
  cases h2 : d.badW at_ l.length
  · rw [if_neg (by simp)]
    obtain ⟨a, b, c⟩ := Dk.badW_no h2
    split
    · exact Dk.put_ok (Dk.acted_ok h) (by rw [Dk.acted_many]; omega) c
    · exact Dk.acted_ok h
  · rw [if_pos rfl]; exact h
/-- All that waits made safe. -/
def Dk.settle (d : Dk) : Dk := { d with safe := over d.safe d.wait, wait := [] }
def Dk.syncE (d : Dk) : Int := if d.down then 5 else d.errA
def Dk.sync (d : Dk) : Dk := if d.down then d else if d.does then d.acted.settle else d.acted
theorem Dk.settle_ok {d : Dk} (h : d.ok) : d.settle.ok := ⟨h.now, over_rows h.rowS h.rowW, fun _ hp => (by cases hp)⟩
theorem Dk.sync_ok {d : Dk} (h : d.ok) : d.sync.ok := by
  unfold Dk.sync
  split
  · exact h
  · split
    · exact Dk.settle_ok (Dk.acted_ok h)
    · exact Dk.acted_ok h
/-- A sector read: the error. -/
def Dk.readE (d : Dk) (at_ : Int) : Int := if d.down then 5 else if 0 ≤ at_ ∧ at_ < d.many then 0 else 1
/-- A row of sectors with one more on top: the first of its place goes, or it comes last. -/
def laidL : List (Nat × List Int) → Nat × List Int → List (Nat × List Int)
  | [], p => [p]
  | q :: l, p => if q.1 = p.1 then p :: l else q :: laidL l p
def keysL (l : List (Nat × List Int)) : List Nat := l.map (·.1)
theorem laidL_keys (l : List (Nat × List Int)) (p : Nat × List Int) : keysL (laidL l p) = if p.1 ∈ keysL l then keysL l else keysL l ++ [p.1] := by
  induction l with
  | nil => simp [laidL, keysL]
  | cons q l ih =>
    rw [laidL]
    by_cases e : q.1 = p.1
    · rw [if_pos e]; simp [keysL, e]
    · rw [if_neg e]
      show q.1 :: keysL (laidL l p) = _
      rw [ih]
      have e2 : ¬ p.1 = q.1 := fun h => e h.symm
      by_cases m : p.1 ∈ keysL l
      · rw [if_pos m, if_pos (by show p.1 ∈ q.1 :: keysL l; simp [m])]; rfl
      · rw [if_neg m, if_neg (by show ¬ p.1 ∈ q.1 :: keysL l; simp [m, e2])]; rfl
theorem laidL_nodup {l : List (Nat × List Int)} (h : (keysL l).Nodup) (p : Nat × List Int) : (keysL (laidL l p)).Nodup := by
  rw [laidL_keys]
  split
  · exact h
  · rename_i hn
    exact List.nodup_append.2 ⟨h, by simp, by rintro a ha b hb rfl; simp at hb; subst hb; exact hn ha⟩
theorem over_none {f : Secs} {l : List (Nat × List Int)} {i : Nat} (h : i ∉ keysL l) : over f l i = f i := by
  induction l generalizing f with
  | nil => rfl
  | cons p l ih =>
    have h1 : i ≠ p.1 := fun e => h (by rw [e]; exact List.mem_cons_self ..)
    exact (ih (f := upd f p.1 p.2) fun hm => h (List.mem_cons_of_mem _ hm)).trans (upd_other _ _ h1)
theorem over_laid {f : Secs} {l : List (Nat × List Int)} (h : (keysL l).Nodup) (p : Nat × List Int) (i : Nat) : over f (laidL l p) i = upd (over f l) p.1 p.2 i := by
  induction l generalizing f with
  | nil => rfl
  | cons q l ih =>
    have hn : q.1 ∉ keysL l ∧ (keysL l).Nodup := List.nodup_cons.1 h
    rw [laidL]
    by_cases e : q.1 = p.1
    · rw [if_pos e]
      show over (upd f p.1 p.2) l i = upd (over (upd f q.1 q.2) l) p.1 p.2 i
      by_cases hi : i = p.1
      · rw [hi, upd_same, over_none (by rw [← e]; exact hn.1), upd_same]
      · rw [upd_other _ _ hi]
        exact over_at _ (by rw [upd_other _ _ hi, upd_other _ _ (by rw [e]; exact hi)])
    · rw [if_neg e]
      exact ih hn.2
def noSecs : Secs := fun _ => none
end Go.Proofs.YtophhnolnlbecaaDoor
