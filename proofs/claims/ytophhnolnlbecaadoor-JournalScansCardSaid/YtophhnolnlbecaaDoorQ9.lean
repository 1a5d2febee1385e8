/- A page is opened as it was made; a page that was turned is refused: plain words. Superblocks as plain words: no program here. The journal's bytes as plain words: frames, the stream, what a scan finds. No statement is proved here. -/
import Derived.Test.YtophhnolnlbecaaDoorQ4
import Derived.Test.YtophhnolnlbecaaDoorQ8
namespace Go.Proofs.YtophhnolnlbecaaDoor
open Go.RowKit
set_option maxRecDepth 100000

theorem cut_at {a b c : List Int} {n s : Int} (ha : n = a.length) (hb : s = b.length) : cutB (a ++ (b ++ c)) n s = b := by
  subst ha hb
  unfold cutB
  rw [Int.toNat_natCast, Int.toNat_natCast, List.drop_left' rfl, List.take_left' rfl]
theorem page_sum (number kind : Int) (body : List Int) : cutB (pageL number kind body) 0 4 = leB 4 (moreP 0 (restL number kind body)) := by
  have h := cut_at (a := []) (b := leB 4 (moreP 0 (restL number kind body))) (c := restL number kind body) (n := 0) (s := 4) rfl (by rw [leB_len]; rfl)
  exact h
theorem page_rest (number kind : Int) (body : List Int) : (pageL number kind body).drop 4 = restL number kind body := List.drop_left' (leB_len _ _)
theorem page_number (number kind : Int) (body : List Int) : cutB (pageL number kind body) 4 4 = leB 4 number := by
  unfold pageL restL
  exact cut_at (by rw [leB_len]; rfl) (by rw [leB_len]; rfl)
theorem page_len (number kind : Int) (body : List Int) : cutB (pageL number kind body) 9 2 = leB 2 (body.length : Int) := by
  have e : pageL number kind body = (leB 4 (moreP 0 (restL number kind body)) ++ leB 4 number ++ leB 1 kind) ++ (leB 2 (body.length : Int) ++ (body ++ List.replicate (4085 - body.length) 0)) := by
    conv => lhs; unfold pageL; rhs; unfold restL
    simp only [List.append_assoc]
  rw [e]
  exact cut_at (by simp only [List.length_append, leB_len]; rfl) (by rw [leB_len]; rfl)
theorem page_body (number kind : Int) (body : List Int) : (pageL number kind body).drop 11 = body ++ List.replicate (4085 - body.length) 0 := by
  have e : pageL number kind body = (leB 4 (moreP 0 (restL number kind body)) ++ leB 4 number ++ leB 1 kind ++ leB 2 (body.length : Int)) ++ (body ++ List.replicate (4085 - body.length) 0) := by
    conv => lhs; unfold pageL; rhs; unfold restL
    simp only [List.append_assoc]
  rw [e]
  exact List.drop_left' (by simp only [List.length_append, leB_len])
theorem page_kind (number kind : Int) (body : List Int) : kindG (pageL number kind body) = kind % 256 := by
  have e : pageL number kind body = (leB 4 (moreP 0 (restL number kind body)) ++ leB 4 number) ++ (kind % 256 :: (leB 2 (body.length : Int) ++ (body ++ List.replicate (4085 - body.length) 0))) := by
    conv => lhs; unfold pageL; rhs; unfold restL
    simp only [List.append_assoc]
    rfl
  unfold kindG
  rw [e, List.getD_eq_getElem?_getD, List.getElem?_append_right (by simp only [List.length_append, leB_len]; omega)]
  simp only [List.length_append, leB_len]
  rfl
theorem valB_of (k : Nat) {n : Int} (h0 : 0 ≤ n) (hn : n < 256 ^ k) : valB (leB k n) = n := by rw [valB_leB k n h0]; exact Int.emod_eq_of_lt h0 hn
theorem all_zeros (n : Nat) : (List.replicate n (0 : Int)).all (· == 0) = true := List.all_eq_true.2 fun x hx => by rw [List.eq_of_mem_replicate hx]; rfl
theorem open_made {number kind : Int} {body : List Int} (h : okG number kind body.length = true) (hB : isB body) (m : Int) :
    openE (pageL number kind body) m = (if m = number then 0 else 121) ∧ openK (pageL number kind body) number = kind ∧ openL (pageL number kind body) number = body := by
  obtain ⟨h1, h2, h3, h4, h5⟩ := okG_yes h
  have hs := moreP_rng (s := 0) (restL_byte (number := number) (kind := kind) hB)
  have p256 : (256 : Int) ^ 4 = 4294967296 := by decide
  have p2 : (256 : Int) ^ 2 = 65536 := by decide
  have e1 : valB (cutB (pageL number kind body) 0 4) = moreP 0 (restL number kind body) := by rw [page_sum]; exact valB_of 4 hs.1 (by omega)
  have e2 : valB (cutB (pageL number kind body) 4 4) = number := by rw [page_number]; exact valB_of 4 h1 (by omega)
  have e3 : lenG (pageL number kind body) = body.length := by unfold lenG; rw [page_len]; exact valB_of 2 (by omega) (by omega)
  have e4 : kindG (pageL number kind body) = kind := by rw [page_kind]; omega
  have hd : (pageL number kind body).drop (11 + body.length) = List.replicate (4085 - body.length) 0 := by
    rw [← List.drop_drop, page_body]
    exact List.drop_left' rfl
  have e5 : clean (pageL number kind body) = true := by unfold clean; rw [e3, Int.toNat_natCast, hd]; exact all_zeros _
  have hE : ∀ m, openE (pageL number kind body) m = if m = number then 0 else 121 := fun m => by
    unfold openE
    rw [if_pos (pageL_len h5), page_rest, e1, if_pos rfl, e2, e3, e4, e5]
    by_cases hm : m = number
    · rw [if_pos hm.symm, if_pos hm, if_neg (by omega), if_pos rfl]
    · rw [if_neg (fun e => hm e.symm), if_neg hm]
  have h0 : openE (pageL number kind body) number = 0 := by rw [hE, if_pos rfl]
  refine ⟨hE m, ?_, ?_⟩
  · unfold openK; rw [if_pos h0, e4]
  · unfold openL; rw [if_pos h0, page_body, e3, Int.toNat_natCast]; exact List.take_left' rfl
/-- Turned bytes are told. -/
theorem open_turned {l d : List Int} {number : Int} {k i : Nat} {b : Bool} (h0 : openE l number = 0) (hB : isB l) (h : Turned l k i d b) (h4 : i ≤ 4) (hk : 4 ≤ k ∨ k + i ≤ 4) :
    (openE (l.take k ++ (d ++ l.drop (k + i))) number == 0) = b := by
  have hl : l.length = 4096 := by
    unfold openE at h0
    split at h0
    · assumption
    · exact absurd h0 (by decide)
  have hll : (l.take k ++ (d ++ l.drop (k + i))).length = 4096 := by rw [List.length_append, List.length_append, h.len, List.length_take, List.length_drop]; have := h.fits; omega
  have hsum : moreP 0 (l.drop 4) = valB (cutB l 0 4) := by
    unfold openE at h0
    rw [if_pos hl] at h0
    split at h0
    · assumption
    · exact absurd h0 (by decide)
  have hpart : l = l.take k ++ ((l.drop k).take i ++ l.drop (k + i)) := by
    rw [show l.drop (k + i) = (l.drop k).drop i by rw [List.drop_drop], List.take_append_drop, List.take_append_drop]
  by_cases hd : d = (l.drop k).take i
  · have hb : b = true := by rw [h.same_]; exact decide_eq_true hd
    rw [hd, ← hpart, h0, hb]
    rfl
  · have hb : b = false := by rw [h.same_]; exact decide_eq_false hd
    have hf := h.fits
    have hlen := h.len
    rw [hb]
    have key : moreP 0 ((l.take k ++ (d ++ l.drop (k + i))).drop 4) ≠ valB (cutB (l.take k ++ (d ++ l.drop (k + i))) 0 4) := by
      rcases hk with hk | hk
      · have e1 : (l.take k ++ (d ++ l.drop (k + i))).drop 4 = (l.drop 4).take (k - 4) ++ (d ++ l.drop (k + i)) := by
          rw [List.drop_append_of_le_length (by rw [List.length_take]; omega), List.drop_take]
        have e2 : l.drop 4 = (l.drop 4).take (k - 4) ++ ((l.drop k).take i ++ l.drop (k + i)) := by
          have := congrArg (List.drop 4) hpart
          rw [List.drop_append_of_le_length (by rw [List.length_take]; omega), List.drop_take] at this
          exact this
        have e3 : cutB (l.take k ++ (d ++ l.drop (k + i))) 0 4 = cutB l 0 4 := by
          unfold cutB
          show ((l.take k ++ (d ++ l.drop (k + i))).drop 0).take 4 = (l.drop 0).take 4
          rw [List.drop_zero, List.drop_zero, List.take_append_of_le_length (by rw [List.length_take]; omega), List.take_take, show min 4 k = 4 by omega]
        rw [e1, e3, ← hsum]
        intro hc
        have ht := (tells_is (a := (l.drop 4).take (k - 4)) (c := l.drop (k + i)) h.byte ((hB.drop k).take' i) (by rw [hlen, List.length_take, List.length_drop]; omega) (by omega)).1
        rw [← e2] at ht
        exact hd (ht hc)
      · have hlk : (l.take k).length = k := by rw [List.length_take]; omega
        have e1 : (l.take k ++ (d ++ l.drop (k + i))).drop 4 = l.drop 4 := by
          have hkd : (l.take k ++ d).length = k + i := by rw [List.length_append, hlk, hlen]
          rw [← List.append_assoc, List.drop_append, List.drop_eq_nil_of_le (by omega), List.nil_append, hkd, List.drop_drop, show k + i + (4 - (k + i)) = 4 by omega]
        have e2 : ∀ q : List Int, q.length = i → cutB (l.take k ++ (q ++ l.drop (k + i))) 0 4 = l.take k ++ (q ++ (l.drop (k + i)).take (4 - (k + i))) := fun q hq => by
          have hkd : (l.take k ++ q).length = k + i := by rw [List.length_append, hlk, hq]
          show ((l.take k ++ (q ++ l.drop (k + i))).drop 0).take 4 = _
          rw [List.drop_zero, ← List.append_assoc, List.take_append, List.take_of_length_le (by omega), hkd, List.append_assoc]
        have hpl : ((l.drop k).take i).length = i := by rw [List.length_take, List.length_drop]; omega
        have e3 : cutB l 0 4 = l.take k ++ ((l.drop k).take i ++ (l.drop (k + i)).take (4 - (k + i))) := by
          rw [← e2 _ hpl, ← hpart]
        rw [e1, hsum]
        intro hc
        have b1 : isB (cutB l 0 4) := (hB.drop _).take' _
        have b2 : isB (cutB (l.take k ++ (d ++ l.drop (k + i))) 0 4) := by
          rw [e2 d hlen]
          exact (hB.take' k).append (h.byte.append ((hB.drop _).take' _))
        have l1 : (cutB l 0 4).length = 4 := by
          show ((l.drop 0).take 4).length = 4
          rw [List.drop_zero, List.length_take]; omega
        have l2 : (cutB (l.take k ++ (d ++ l.drop (k + i))) 0 4).length = 4 := by
          show (((l.take k ++ (d ++ l.drop (k + i))).drop 0).take 4).length = 4
          rw [List.drop_zero, List.length_take]; omega
        have q1 := leB_valB _ b1
        have q2 := leB_valB _ b2
        rw [l1] at q1
        rw [l2] at q2
        have q : cutB l 0 4 = cutB (l.take k ++ (d ++ l.drop (k + i))) 0 4 := by rw [← q1, ← q2, hc]
        rw [e3, e2 d hlen] at q
        exact hd (List.append_inj (List.append_cancel_left q) (by rw [hpl, hlen])).1.symm
    unfold openE
    rw [if_pos hll, if_neg key]
    rfl
end Go.Proofs.YtophhnolnlbecaaDoor
namespace Go.Proofs.YtophhnolnlbecaaDoor
open Go.RowKit
set_option maxRecDepth 100000

/-- A superblock's four numbers. -/
structure Sup where
  ver : Int
  root : Int
  ep : Int
  pag : Int
deriving DecidableEq
def Sup.zero : Sup := ⟨0, 0, 0, 0⟩
def Sup.ok (s : Sup) : Bool := decide (1 ≤ s.ver ∧ s.ver ≤ 1099511627776 ∧ 1 ≤ s.ep ∧ s.ep ≤ 1099511627776 ∧ 16 ≤ s.pag ∧ s.pag ≤ 65536 ∧ 0 ≤ s.root ∧ s.root < s.pag)
theorem Sup.ok_yes {s : Sup} (h : s.ok = true) : 1 ≤ s.ver ∧ s.ver ≤ 1099511627776 ∧ 1 ≤ s.ep ∧ s.ep ≤ 1099511627776 ∧ 16 ≤ s.pag ∧ s.pag ≤ 65536 ∧ 0 ≤ s.root ∧ s.root < s.pag := of_decide_eq_true h
theorem Sup.ok_no {s : Sup} (h : s.ok = false) : s.ver < 1 ∨ 1099511627776 < s.ver ∨ s.ep < 1 ∨ 1099511627776 < s.ep ∨ s.pag < 16 ∨ 65536 < s.pag ∨ s.root < 0 ∨ s.pag ≤ s.root := by
  have := of_decide_eq_false h
  omega
def signL : List Int := [67, 70, 82, 84]
def Sup.body (s : Sup) : List Int := signL ++ (leB 8 s.ver ++ (leB 8 s.root ++ (leB 8 s.ep ++ leB 8 s.pag)))
theorem Sup.body_len (s : Sup) : s.body.length = 36 := by simp [Sup.body, leB_len, signL]
theorem signL_byte : isB signL := isB_of (by decide)
theorem Sup.body_byte (s : Sup) : isB s.body := signL_byte.append2 ((leB_byte _ _).append2 ((leB_byte _ _).append2 ((leB_byte _ _).append2 (leB_byte _ _))))
def Sup.make (s : Sup) : List Int := if s.ok then pageL (s.ver % 2) 1 s.body else []
def Sup.makeE (s : Sup) : Int := if s.ok then 0 else 1
theorem Sup.okG {s : Sup} : okG (s.ver % 2) 1 s.body.length = true := by
  unfold Go.Proofs.YtophhnolnlbecaaDoor.okG
  rw [s.body_len]
  simp
  omega
theorem Sup.make_ok {s : Sup} (h : s.ok = true) : s.make = pageL (s.ver % 2) 1 s.body := by unfold Sup.make; rw [h]; rfl
theorem Sup.make_len {s : Sup} (h : s.ok = true) : s.make.length = 4096 := by rw [Sup.make_ok h]; exact pageL_len (by rw [s.body_len]; omega)
theorem Sup.make_byte (s : Sup) : isB s.make := by
  unfold Sup.make
  split
  · exact pageL_byte s.body_byte
  · exact isB.nil
/-- What a body says. -/
def supOf (x : List Int) : Sup := ⟨readP x 4 8, readP x 12 8, readP x 20 8, readP x 28 8⟩
def supGood (x : List Int) : Bool := decide (x.length = 36) && (decide (x.take 4 = signL) && (decide (readE x 4 8 = 0 ∧ readE x 12 8 = 0 ∧ readE x 20 8 = 0 ∧ readE x 28 8 = 0)))
/-- What is wrong with a superblock's page under a number. -/
def sopE (l : List Int) (number : Int) : Int :=
  if number < 0 ∨ 1 < number then 1
  else if openE l number ≠ 0 then openE l number
  else if openK l number = 1 ∧ supGood (openL l number) = true ∧ (supOf (openL l number)).ok = true ∧ (supOf (openL l number)).ver % 2 = number then 0 else 140
def sopS (l : List Int) (number : Int) : Sup := if sopE l number = 0 then supOf (openL l number) else Sup.zero
def chE (a b : List Int) : Int := if sopE a 0 ≠ 0 ∧ sopE b 1 ≠ 0 then 140 else 0
def chS (a b : List Int) : Sup :=
  if sopE a 0 ≠ 0 then (if sopE b 1 ≠ 0 then Sup.zero else sopS b 1)
  else if sopE b 1 = 0 ∧ (sopS a 0).ver < (sopS b 1).ver then sopS b 1 else sopS a 0
/-- A number of eight bytes, read as it was written. -/
theorem read8 {a c : List Int} {n : Int} {k : Int} (hk : k = a.length) (h0 : 0 ≤ n) (hn : n ≤ 9223372036854775807) : readP (a ++ (leB 8 n ++ c)) k 8 = n ∧ readE (a ++ (leB 8 n ++ c)) k 8 = 0 := by
  have hc : cutB (a ++ (leB 8 n ++ c)) k 8 = leB 8 n := cut_at hk (by rw [leB_len]; rfl)
  have p8 : (256 : Int) ^ 8 = 18446744073709551616 := by decide
  have hv : valB (leB 8 n) = n := valB_of 8 h0 (by omega)
  have hl : (a ++ (leB 8 n ++ c)).length = a.length + (8 + c.length) := by simp [leB_len]
  have h1 : argR (a ++ (leB 8 n ++ c)) k 8 = true := decide_eq_true (by rw [hl]; omega)
  have h2 : lenR (a ++ (leB 8 n ++ c)) k 8 = true := decide_eq_true (by rw [hl]; omega)
  have h3 : topR (a ++ (leB 8 n ++ c)) k 8 = true := decide_eq_true (by rw [hc, hv]; exact hn)
  have hE : readE (a ++ (leB 8 n ++ c)) k 8 = 0 := by
    unfold readE
    rw [h1, h2, h3]
    rfl
  refine ⟨?_, hE⟩
  unfold readP
  rw [hE, if_pos rfl, hc, hv]
theorem sup_body {s : Sup} (h : s.ok = true) : supOf s.body = s ∧ supGood s.body = true := by
  obtain ⟨a1, a2, a3, a4, a5, a6, a7, a8⟩ := Sup.ok_yes h
  have e1 := read8 (a := signL) (c := leB 8 s.root ++ (leB 8 s.ep ++ leB 8 s.pag)) (n := s.ver) (k := 4) rfl (by omega) (by omega)
  have e2 := read8 (a := signL ++ leB 8 s.ver) (c := leB 8 s.ep ++ leB 8 s.pag) (n := s.root) (k := 12) (by simp [leB_len, signL]) (by omega) (by omega)
  have e3 := read8 (a := signL ++ (leB 8 s.ver ++ leB 8 s.root)) (c := leB 8 s.pag) (n := s.ep) (k := 20) (by simp [leB_len, signL]) (by omega) (by omega)
  have e4 := read8 (a := signL ++ (leB 8 s.ver ++ (leB 8 s.root ++ leB 8 s.ep))) (c := []) (n := s.pag) (k := 28) (by simp [leB_len, signL]) (by omega) (by omega)
  have b2 : signL ++ leB 8 s.ver ++ (leB 8 s.root ++ (leB 8 s.ep ++ leB 8 s.pag)) = s.body := by simp [Sup.body]
  have b3 : signL ++ (leB 8 s.ver ++ leB 8 s.root) ++ (leB 8 s.ep ++ leB 8 s.pag) = s.body := by simp [Sup.body]
  have b4 : signL ++ (leB 8 s.ver ++ (leB 8 s.root ++ leB 8 s.ep)) ++ (leB 8 s.pag ++ []) = s.body := by simp [Sup.body]
  rw [b2] at e2
  rw [b3] at e3
  rw [b4] at e4
  have e1 : readP s.body 4 8 = s.ver ∧ readE s.body 4 8 = 0 := e1
  refine ⟨?_, ?_⟩
  · unfold supOf
    rw [e1.1, e2.1, e3.1, e4.1]
  · unfold supGood
    rw [s.body_len, e1.2, e2.2, e3.2, e4.2]
    simp [Sup.body, signL]
/-- A superblock is opened as it was made. -/
theorem sop_made {s : Sup} (h : s.ok = true) (m : Int) : sopE s.make m = (if m < 0 ∨ 1 < m then 1 else if m = s.ver % 2 then 0 else 121) ∧ sopS s.make (s.ver % 2) = s := by
  have ho := fun m => open_made (number := s.ver % 2) (kind := 1) (body := s.body) Sup.okG s.body_byte m
  have hb := sup_body h
  rw [← Sup.make_ok h] at ho
  have hv : ¬ (s.ver % 2 < 0 ∨ 1 < s.ver % 2) := by omega
  have hE : ∀ m, sopE s.make m = (if m < 0 ∨ 1 < m then 1 else if m = s.ver % 2 then 0 else 121) := fun m => by
    unfold sopE
    by_cases h1 : m < 0 ∨ 1 < m
    · rw [if_pos h1, if_pos h1]
    · rw [if_neg h1, if_neg h1]
      by_cases h2 : m = s.ver % 2
      · subst h2
        have hE0 : openE s.make (s.ver % 2) = 0 := by rw [(ho _).1, if_pos rfl]
        rw [if_neg (fun h => h hE0), (ho (s.ver % 2)).2.1, (ho (s.ver % 2)).2.2, hb.1, hb.2, if_pos ⟨rfl, rfl, h, rfl⟩, if_pos rfl]
      · have hE0 : openE s.make m = 121 := by rw [(ho _).1, if_neg h2]
        rw [hE0, if_pos (by decide), if_neg h2]
  refine ⟨hE m, ?_⟩
  unfold sopS
  rw [hE, if_neg hv, if_pos rfl, if_pos rfl, (ho (s.ver % 2)).2.2, hb.1]
/-- A page is made as it was opened. -/
theorem make_opened {l : List Int} {number : Int} (hB : isB l) (h : openE l number = 0) (h0 : 0 ≤ number) : pageL number (openK l number) (openL l number) = l ∧ (openL l number).length ≤ 4085 := by
  have hk : openK l number = kindG l := by unfold openK; rw [if_pos h]
  have hL : openL l number = (l.drop 11).take (lenG l).toNat := by unfold openL; rw [if_pos h]
  unfold openE at h
  by_cases c1 : l.length = 4096
  rotate_left
  · rw [if_neg c1] at h; exact absurd h (by decide)
  rw [if_pos c1] at h
  by_cases c2 : moreP 0 (l.drop 4) = valB (cutB l 0 4)
  rotate_left
  · rw [if_neg c2] at h; exact absurd h (by decide)
  rw [if_pos c2] at h
  by_cases c3 : valB (cutB l 4 4) = number
  rotate_left
  · rw [if_neg c3] at h; exact absurd h (by decide)
  rw [if_pos c3] at h
  by_cases c4 : kindG l = 0 ∨ 4085 < lenG l
  · rw [if_pos c4] at h; exact absurd h (by decide)
  rw [if_neg c4] at h
  cases c5 : clean l
  · rw [c5] at h; exact absurd h (by decide)
  have hlg := lenG_rng hB
  have hlen : (openL l number).length = (lenG l).toNat := by rw [hL, List.length_take, List.length_drop]; omega
  have cut_len : ∀ a s : Nat, a + s ≤ 4096 → (cutB l a s).length = s := fun a s hs => by
    unfold cutB
    rw [Int.toNat_natCast, Int.toNat_natCast, List.length_take, List.length_drop]
    omega
  have cut_b : ∀ a s : Nat, isB (cutB l a s) := fun a s => (hB.drop _).take' _
  have s0 : leB 4 (moreP 0 (l.drop 4)) = cutB l 0 4 := by
    rw [c2]
    have := leB_valB (cutB l 0 4) (cut_b 0 4)
    rw [show (cutB l 0 4).length = 4 from cut_len 0 4 (by omega)] at this
    exact this
  have s1 : leB 4 number = cutB l 4 4 := by
    rw [← c3]
    have := leB_valB (cutB l 4 4) (cut_b 4 4)
    rw [show (cutB l 4 4).length = 4 from cut_len 4 4 (by omega)] at this
    exact this
  have s3 : leB 2 ((openL l number).length : Int) = cutB l 9 2 := by
    rw [hlen, Int.toNat_of_nonneg hlg.1]
    have := leB_valB (cutB l 9 2) (cut_b 9 2)
    rw [show (cutB l 9 2).length = 2 from cut_len 9 2 (by omega)] at this
    exact this
  have s2 : leB 1 (openK l number) = (l.drop 8).take 1 := by
    have hx : l[8]? = some (kindG l) := by
      unfold kindG
      rw [List.getD_eq_getElem?_getD, List.getElem?_eq_getElem (by omega)]
      rfl
    have hb := hB.at' hx
    rw [hk]
    have e1 : (l.drop 8).take 1 = [kindG l] := by
      rw [List.drop_eq_getElem_cons (by omega)]
      obtain ⟨_, e⟩ := List.getElem?_eq_some_iff.1 hx
      rw [e]
      rfl
    rw [e1]
    show [kindG l % 256] = _
    rw [show kindG l % 256 = kindG l by omega]
  have s4 : openL l number ++ List.replicate (4085 - (openL l number).length) 0 = l.drop 11 := by
    have hz : List.replicate (4085 - (openL l number).length) 0 = (l.drop 11).drop (lenG l).toNat := by
      have hc := c5
      unfold clean at hc
      rw [List.drop_drop]
      have hl : (l.drop (11 + (lenG l).toNat)).length = 4085 - (openL l number).length := by rw [List.length_drop, c1, hlen]; omega
      rw [← hl]
      refine (List.eq_replicate_iff.2 ⟨rfl, fun b hb => ?_⟩).symm
      have := List.all_eq_true.1 hc b hb
      simpa using this
    rw [hz, hL, List.take_append_drop]
  have hrest : restL number (openK l number) (openL l number) = l.drop 4 := by
    unfold restL
    rw [s1, s2, s3, s4]
    have d1 : l.drop 4 = cutB l 4 4 ++ ((l.drop 8).take 1 ++ (cutB l 9 2 ++ l.drop 11)) := by
      have e1 : l.drop 4 = (l.drop 4).take 4 ++ l.drop 8 := by
        conv => lhs; rw [← List.take_append_drop 4 (l.drop 4)]
        rw [List.drop_drop]
      have e2 : l.drop 8 = (l.drop 8).take 1 ++ l.drop 9 := by
        conv => lhs; rw [← List.take_append_drop 1 (l.drop 8)]
        rw [List.drop_drop]
      have e3 : l.drop 9 = (l.drop 9).take 2 ++ l.drop 11 := by
        conv => lhs; rw [← List.take_append_drop 2 (l.drop 9)]
        rw [List.drop_drop]
      show l.drop 4 = (l.drop 4).take 4 ++ ((l.drop 8).take 1 ++ ((l.drop 9).take 2 ++ l.drop 11))
      rw [← e3, ← e2, ← e1]
    exact d1.symm
  refine ⟨?_, by rw [hlen]; omega⟩
  unfold pageL
  rw [hrest, s0]
  show (l.drop 0).take 4 ++ l.drop 4 = l
  rw [List.drop_zero, List.take_append_drop]
theorem sop_at {l : List Int} {n : Int} (h : sopE l n = 0) : (n = 0 ∨ n = 1) ∧ openE l n = 0 ∧ openK l n = 1 ∧ supGood (openL l n) = true ∧ (sopS l n).ok = true ∧ (sopS l n).ver % 2 = n ∧ sopS l n = supOf (openL l n) := by
  have hs : sopS l n = supOf (openL l n) := by unfold sopS; rw [if_pos h]
  rw [hs]
  unfold sopE at h
  split at h
  · exact absurd h (by decide)
  · rename_i h1
    split at h
    · rename_i h2; exact absurd h h2
    · rename_i h2
      split at h
      · rename_i h3
        exact ⟨by omega, by omega, h3.1, h3.2.1, h3.2.2.1, h3.2.2.2, rfl⟩
      · exact absurd h (by decide)
theorem readE_len {x : List Int} {a : Nat} (h : readE x a 8 = 0) : readP x a 8 = valB ((x.drop a).take 8) := by
  unfold readP
  rw [if_pos h]
  rfl
/-- A superblock is made as it was opened. -/
theorem made_sop {l : List Int} {n : Int} (hB : isB l) (h : sopE l n = 0) : (sopS l n).make = l := by
  obtain ⟨h0, h1, h2, h3, h4, h5, h6⟩ := sop_at h
  have hm := make_opened hB h1 (by omega)
  rw [Sup.make_ok h4, h5]
  have hb : (sopS l n).body = openL l n := by
    rw [h6]
    generalize hx : openL l n = x at *
    have hxb : isB x := by
      rw [← hx]
      unfold openL
      rw [if_pos h1]
      exact (hB.drop _).take' _
    unfold supGood at h3
    simp only [Bool.and_eq_true, decide_eq_true_eq] at h3
    obtain ⟨q1, q2, q3, q4, q5, q6⟩ := h3
    have hcut : ∀ a : Nat, a + 8 ≤ 36 → leB 8 (valB ((x.drop a).take 8)) = (x.drop a).take 8 := fun a ha => by
      have := leB_valB ((x.drop a).take 8) ((hxb.drop a).take' 8)
      rw [show ((x.drop a).take 8).length = 8 by rw [List.length_take, List.length_drop]; omega] at this
      exact this
    have hd : ∀ a : Nat, (x.drop a).take 8 ++ x.drop (a + 8) = x.drop a := fun a => by
      rw [show x.drop (a + 8) = (x.drop a).drop 8 by rw [List.drop_drop], List.take_append_drop]
    unfold Sup.body supOf
    show signL ++ (leB 8 (readP x ((4 : Nat) : Int) 8) ++ (leB 8 (readP x ((12 : Nat) : Int) 8) ++ (leB 8 (readP x ((20 : Nat) : Int) 8) ++ leB 8 (readP x ((28 : Nat) : Int) 8)))) = x
    rw [readE_len (a := 4) q3, readE_len (a := 12) q4, readE_len (a := 20) q5, readE_len (a := 28) q6, hcut 4 (by omega), hcut 12 (by omega), hcut 20 (by omega), hcut 28 (by omega)]
    have e28 : (x.drop 28).take 8 = x.drop 28 := List.take_of_length_le (by rw [List.length_drop]; omega)
    rw [e28, hd 20, hd 12, hd 4, ← q2, List.take_append_drop]
  rw [hb, ← h2]
  exact hm.1
/-- A page of zeros is no superblock's. -/
theorem sop_zeros (n : Int) : sopE (List.replicate 4096 0) n ≠ 0 := fun h => by
  obtain ⟨h0, h1, h2, -⟩ := sop_at h
  unfold openK at h2
  rw [if_pos h1] at h2
  have hk : kindG (List.replicate 4096 0) = 0 := by
    unfold kindG
    rw [List.getD_eq_getElem?_getD, List.getElem?_replicate]
    rfl
  rw [hk] at h2
  exact absurd h2 (by decide)
end Go.Proofs.YtophhnolnlbecaaDoor
namespace Go.Proofs.YtophhnolnlbecaaDoor
open Go.RowKit
set_option maxRecDepth 100000

def jOk (e : Int) : Prop := 1 ≤ e ∧ e ≤ 1099511627776
instance (e : Int) : Decidable (jOk e) := by unfold jOk; infer_instance
def jHead (e num : Int) (l : List Int) : List Int := leB 4 (l.length : Int) ++ (leB 8 e ++ leB 4 num)
def jFrame (e num : Int) (l : List Int) : List Int := jHead e num l ++ (leB 4 (moreP 0 (jHead e num l ++ l)) ++ l)
/-- What is wrong with a frame. -/
def frE (e num : Int) (n : Nat) : Int := if ¬ jOk e ∨ num < 0 ∨ 2147483648 ≤ num then 1 else if 268435456 < n then 2 else 0
def frL (e num : Int) (l : List Int) : List Int := if frE e num l.length = 0 then jFrame e num l else []
/-- How many bytes the frame has that stands there. -/
def standsN (b : List Int) (e num : Int) : Nat :=
  if b.length < 20 then 0
  else if b.length - 20 < (readP b 0 4).toNat ∨ 268435456 < (readP b 0 4).toNat then 0
  else if frL e num ((b.drop 20).take (readP b 0 4).toNat) = b.take (20 + (readP b 0 4).toNat) then 20 + (readP b 0 4).toNat else 0
def begins (at_ : Nat) : Nat := if 484 < at_ % 504 then (at_ / 504 + 1) * 504 else at_
/-- The sectors' parts, up to the first of another stamp. -/
def streamN (e : Int) : Nat → List Int → List Int
  | 0, _ => []
  | k + 1, b => if b.length < 512 then [] else if readE b 0 8 = 0 ∧ readP b 0 8 = e then (b.drop 8).take 504 ++ streamN e k (b.drop 512) else []
def scanF (s : List Int) (e : Int) : Nat → Nat → Nat → List (List Int) × Nat
  | 0, _, en => ([], en)
  | f + 1, k, en =>
    if s.length < begins en then ([], en)
    else if standsN (s.drop (begins en)) e k = 0 then ([], en)
    else ((s.drop (begins en + 20)).take (standsN (s.drop (begins en)) e k - 20) :: (scanF s e f (k + 1) (begins en + standsN (s.drop (begins en)) e k)).1, (scanF s e f (k + 1) (begins en + standsN (s.drop (begins en)) e k)).2)
def scanN (s : List Int) (e : Int) : List (List Int) × Nat := if jOk e then scanF s e (s.length + 1) 0 0 else ([], 0)
/-- The stream, once the first k records are there. -/
def strmK (e : Int) (rs : List (List Int)) : Nat → List Int
  | 0 => []
  | k + 1 => strmK e rs k ++ (List.replicate (begins (strmK e rs k).length - (strmK e rs k).length) 0 ++ jFrame e k (rs[k]?.getD []))
theorem jHead_len (e num : Int) (l : List Int) : (jHead e num l).length = 16 := by simp [jHead, leB_len]
theorem jFrame_len (e num : Int) (l : List Int) : (jFrame e num l).length = 20 + l.length := by
  simp [jFrame, jHead_len, leB_len]
  omega
theorem begins_le (n : Nat) : n ≤ begins n ∧ begins n ≤ n + 19 := by
  unfold begins
  split
  · omega
  · omega
theorem begins_fits (n : Nat) : begins n % 504 ≤ 484 := by
  unfold begins
  split
  · omega
  · omega
theorem strmK_len (e : Int) (rs : List (List Int)) (k : Nat) : (strmK e rs (k + 1)).length = begins (strmK e rs k).length + 20 + (rs[k]?.getD []).length := by
  have := begins_le (strmK e rs k).length
  rw [strmK, List.length_append, List.length_append, List.length_replicate, jFrame_len]
  omega
theorem strmK_grows (e : Int) (rs : List (List Int)) (k : Nat) : (strmK e rs k).length + 20 ≤ (strmK e rs (k + 1)).length := by
  have := begins_le (strmK e rs k).length
  rw [strmK_len]
  omega
theorem read4 {c : List Int} {n : Int} (h0 : 0 ≤ n) (hn : n < 4294967296) : readP (leB 4 n ++ c) 0 4 = n := by
  have hc : cutB ([] ++ (leB 4 n ++ c)) 0 4 = leB 4 n := cut_at rfl (by rw [leB_len]; rfl)
  rw [List.nil_append] at hc
  have p4 : (256 : Int) ^ 4 = 4294967296 := by decide
  have hv : valB (leB 4 n) = n := valB_of 4 h0 (by omega)
  have hl : (leB 4 n ++ c).length = 4 + c.length := by simp [leB_len]
  have h1 : argR (leB 4 n ++ c) 0 4 = true := decide_eq_true (by omega)
  have h2 : lenR (leB 4 n ++ c) 0 4 = true := decide_eq_true (by omega)
  have h3 : topR (leB 4 n ++ c) 0 4 = true := decide_eq_true (by rw [hc, hv]; omega)
  have hE : readE (leB 4 n ++ c) 0 4 = 0 := by
    unfold readE
    rw [h1, h2, h3]
    rfl
  unfold readP
  rw [hE, if_pos rfl, hc, hv]
/-- A frame that is there stands there. -/
theorem stands_frame {e : Int} {k : Nat} {r rest : List Int} (he : jOk e) (hk : k < 2147483648) (hr : r.length ≤ 268435456) : standsN (jFrame e k r ++ rest) e k = 20 + r.length := by
  have hd : readP (jFrame e k r ++ rest) 0 4 = (r.length : Int) := by
    have : jFrame e k r ++ rest = leB 4 (r.length : Int) ++ ((leB 8 e ++ leB 4 (k : Int)) ++ (leB 4 (moreP 0 (jHead e k r ++ r)) ++ r) ++ rest) := by simp [jFrame, jHead]
    rw [this]
    exact read4 (by omega) (by omega)
  have hl : (jFrame e k r ++ rest).length = 20 + r.length + rest.length := by rw [List.length_append, jFrame_len]
  have hfr : frL e k r = jFrame e k r := by
    have hE : frE e k r.length = 0 := by
      unfold frE
      rw [if_neg (by intro h; rcases h with h | h | h; exact h he; omega; omega), if_neg (by omega)]
    unfold frL
    rw [if_pos hE]
  have h20 : (jFrame e k r ++ rest).drop 20 = r ++ rest := by
    have e1 : jFrame e k r ++ rest = (jHead e k r ++ leB 4 (moreP 0 (jHead e k r ++ r))) ++ (r ++ rest) := by simp [jFrame]
    rw [e1]
    exact List.drop_left' (by rw [List.length_append, jHead_len, leB_len])
  unfold standsN
  rw [hd, Int.toNat_natCast, if_neg (by omega), if_neg (by omega), h20, List.take_left, hfr, if_pos]
  rw [← jFrame_len e k r, List.take_left]
/-- A step of a scan over a stream in which the next record is there. -/
theorem scan_step {e : Int} {rs : List (List Int)} {T : List Int} {k f : Nat} {r : List Int} (he : jOk e) (hk : k < 2147483648) (hr : rs[k]? = some r) (hlen : r.length ≤ 268435456) (hT : T.take (strmK e rs (k + 1)).length = strmK e rs (k + 1)) :
    scanF T e (f + 1) k (strmK e rs k).length = (r :: (scanF T e f (k + 1) (strmK e rs (k + 1)).length).1, (scanF T e f (k + 1) (strmK e rs (k + 1)).length).2) := by
  obtain ⟨rest, hrest⟩ : ∃ rest, T = strmK e rs (k + 1) ++ rest := ⟨T.drop (strmK e rs (k + 1)).length, by rw [← hT, List.length_take]; rw [← List.take_append_drop (strmK e rs (k + 1)).length T] ; simp [hT]⟩
  have hb := begins_le (strmK e rs k).length
  have hL := strmK_len e rs k
  rw [hr] at hL
  have hL : (strmK e rs (k + 1)).length = begins (strmK e rs k).length + 20 + r.length := hL
  have hTl : T.length = begins (strmK e rs k).length + 20 + r.length + rest.length := by rw [hrest, List.length_append, hL]
  have hd : T.drop (begins (strmK e rs k).length) = jFrame e k r ++ rest := by
    rw [hrest, strmK, hr]
    show List.drop _ (strmK e rs k ++ (List.replicate _ 0 ++ jFrame e k r) ++ rest) = _
    rw [List.append_assoc, List.append_assoc, ← List.append_assoc]
    exact List.drop_left' (by rw [List.length_append, List.length_replicate]; omega)
  have hs := stands_frame (rest := rest) he hk hlen
  rw [← hd] at hs
  have h20 : (T.drop (begins (strmK e rs k).length + 20)).take r.length = r := by
    rw [← List.drop_drop, hd]
    have e1 : jFrame e k r ++ rest = (jHead e k r ++ leB 4 (moreP 0 (jHead e k r ++ r))) ++ (r ++ rest) := by simp [jFrame]
    rw [e1, List.drop_left' (by rw [List.length_append, jHead_len, leB_len]), List.take_left]
  rw [scanF, if_neg (by omega), hs, if_neg (by omega), show 20 + r.length - 20 = r.length by omega, h20, show begins (strmK e rs k).length + (20 + r.length) = (strmK e rs (k + 1)).length by omega]
theorem strmK_take {e : Int} {rs : List (List Int)} {T : List Int} {k : Nat} (h : T.take (strmK e rs (k + 1)).length = strmK e rs (k + 1)) : T.take (strmK e rs k).length = strmK e rs k := by
  have e1 : (T.take (strmK e rs (k + 1)).length).take (strmK e rs k).length = (strmK e rs (k + 1)).take (strmK e rs k).length := by rw [h]
  rw [List.take_take, Nat.min_eq_left (by have := strmK_grows e rs k; omega)] at e1
  rw [e1, strmK, List.take_left]
theorem strmK_big (e : Int) (rs : List (List Int)) : ∀ k, 20 * k ≤ (strmK e rs k).length
  | 0 => Nat.zero_le _
  | k + 1 => by
    have := strmK_grows e rs k
    have := strmK_big e rs k
    omega
/-- What a scan finds: the first m, where they are there, and no further one stands behind them. -/
theorem scan_from {e : Int} {rs : List (List Int)} {T : List Int} {m : Nat} (he : jOk e) (hm : m ≤ rs.length) (h31 : rs.length < 2147483648) (hlen : ∀ r ∈ rs, r.length ≤ 268435456) (hT : T.take (strmK e rs m).length = strmK e rs m)
    (hend : T.length < begins (strmK e rs m).length ∨ standsN (T.drop (begins (strmK e rs m).length)) e m = 0) : ∀ (f k : Nat), k ≤ m → m - k < f → T.take (strmK e rs k).length = strmK e rs k ∧ scanF T e f k (strmK e rs k).length = ((rs.take m).drop k, (strmK e rs m).length)
  | 0, k, hk, hf => by omega
  | f + 1, k, hk, hf => by
    have htk : ∀ d k, k + d = m → T.take (strmK e rs k).length = strmK e rs k := fun d => by
      induction d with
      | zero => intro k h; rw [Nat.add_zero] at h; rw [h]; exact hT
      | succ d ih => intro k h; exact strmK_take (ih (k + 1) (by omega))
    refine ⟨htk (m - k) k (by omega), ?_⟩
    by_cases hkm : k = m
    · subst hkm
      have h0 : (rs.take k).drop k = [] := List.drop_eq_nil_of_le (by rw [List.length_take]; omega)
      rw [scanF, h0]
      rcases hend with h | h
      · rw [if_pos h]
      · rw [h]
        split
        · rfl
        · rw [if_pos rfl]
    · have hlt : k < rs.length := by omega
      have hg : rs[k]? = some rs[k] := List.getElem?_eq_getElem hlt
      rw [scan_step he (by omega) hg (hlen _ (List.getElem_mem _)) (htk (m - (k + 1)) (k + 1) (by omega)), (scan_from he hm h31 hlen hT hend f (k + 1) (by omega) (by omega)).2]
      have hlt2 : k < (rs.take m).length := by rw [List.length_take]; omega
      rw [List.drop_eq_getElem_cons hlt2, List.getElem_take]
theorem scan_finds {e : Int} {rs : List (List Int)} {T : List Int} {m : Nat} (he : jOk e) (hm : m ≤ rs.length) (h31 : rs.length < 2147483648) (hlen : ∀ r ∈ rs, r.length ≤ 268435456) (hT : T.take (strmK e rs m).length = strmK e rs m)
    (hend : T.length < begins (strmK e rs m).length ∨ standsN (T.drop (begins (strmK e rs m).length)) e m = 0) : scanN T e = (rs.take m, (strmK e rs m).length) := by
  have hb := strmK_big e rs m
  have hl : (strmK e rs m).length ≤ T.length := by
    have := congrArg List.length hT
    rw [List.length_take] at this
    omega
  have h := (scan_from he hm h31 hlen hT hend (T.length + 1) 0 (by omega) (by omega)).2
  unfold scanN
  rw [if_pos he]
  exact h
/-- Where the first bytes of a head are zeros, nothing stands. -/
theorem stands_zero {b : List Int} {e num : Int} (he : jOk e) (h : (b.drop 4).take 8 = List.replicate 8 0) : standsN b e num = 0 := by
  unfold standsN
  split
  · rfl
  · rename_i h20
    split
    · rfl
    · split
      · rename_i h1 h2
        exfalso
        unfold frL at h2
        split at h2
        · have e1 : ((jFrame e num ((b.drop 20).take (readP b 0 4).toNat)).drop 4).take 8 = leB 8 e := by
            unfold jFrame jHead
            rw [List.append_assoc, List.drop_left' (leB_len _ _), List.append_assoc, List.append_assoc, List.take_left' (leB_len _ _)]
          rw [h2, List.drop_take, List.take_take, Nat.min_eq_left (by omega), h] at e1
          have p8 : (256 : Int) ^ 8 = 18446744073709551616 := by decide
          unfold jOk at he
          have e2 : valB (leB 8 e) = e := valB_of 8 (by omega) (by omega)
          rw [← e1] at e2
          have e3 : valB (List.replicate 8 0) = 0 := by decide
          omega
        · have := congrArg List.length h2
          simp at this
          omega
      · rfl
/-- A frame that is cut off does not stand. -/
theorem stands_cut {b : List Int} {e num : Int} {n : Nat} (hn : b.take 4 = leB 4 (n : Int)) (hn2 : n < 4294967296) (hl : b.length < 20 + n) : standsN b e num = 0 := by
  unfold standsN
  split
  · rfl
  · have hr : readP b 0 4 = n := by
      rw [← List.take_append_drop 4 b, hn]
      exact read4 (by omega) (by omega)
    rw [hr, Int.toNat_natCast, if_pos (.inl (by omega))]
end Go.Proofs.YtophhnolnlbecaaDoor
