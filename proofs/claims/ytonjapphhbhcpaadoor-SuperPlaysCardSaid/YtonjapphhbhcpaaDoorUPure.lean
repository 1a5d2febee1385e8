/- Superblocks as plain words: no program here. No statement is proved here. -/
import Derived.Test.YtonjapphhbhcpaaDoorJ1
namespace Go.Proofs.YtonjapphhbhcpaaDoor
open Go.RowKit
set_option maxRecDepth 100000

/-- A superblock's four numbers. -/
structure Sup where
  ver : Int
  root : Int
  ep : Int
  pag : Int
deriving DecidableEq
def Sup.zero : Sup := ⟨0, 0, 0, 0⟩
def Sup.ok (s : Sup) : Bool := decide (1 ≤ s.ver ∧ s.ver ≤ 1099511627776 ∧ 1 ≤ s.ep ∧ s.ep ≤ 1099511627776 ∧ 16 ≤ s.pag ∧ s.pag ≤ 65536 ∧ 0 ≤ s.root ∧ s.root < s.pag)
theorem Sup.ok_yes {s : Sup} (h : s.ok = true) : 1 ≤ s.ver ∧ s.ver ≤ 1099511627776 ∧ 1 ≤ s.ep ∧ s.ep ≤ 1099511627776 ∧ 16 ≤ s.pag ∧ s.pag ≤ 65536 ∧ 0 ≤ s.root ∧ s.root < s.pag := of_decide_eq_true h
theorem Sup.ok_no {s : Sup} (h : s.ok = false) : s.ver < 1 ∨ 1099511627776 < s.ver ∨ s.ep < 1 ∨ 1099511627776 < s.ep ∨ s.pag < 16 ∨ 65536 < s.pag ∨ s.root < 0 ∨ s.pag ≤ s.root := by
  have := of_decide_eq_false h
  omega
def signL : List Int := [67, 70, 82, 84]
def Sup.body (s : Sup) : List Int := signL ++ (leB 8 s.ver ++ (leB 8 s.root ++ (leB 8 s.ep ++ leB 8 s.pag)))
theorem Sup.body_len (s : Sup) : s.body.length = 36 := by simp [Sup.body, leB_len, signL]
theorem signL_byte : isB signL := isB_of (by decide)
theorem Sup.body_byte (s : Sup) : isB s.body := signL_byte.append2 ((leB_byte _ _).append2 ((leB_byte _ _).append2 ((leB_byte _ _).append2 (leB_byte _ _))))
def Sup.make (s : Sup) : List Int := if s.ok then pageL (s.ver % 2) 1 s.body else []
def Sup.makeE (s : Sup) : Int := if s.ok then 0 else 1
theorem Sup.okG {s : Sup} : okG (s.ver % 2) 1 s.body.length = true := by
  unfold Go.Proofs.YtonjapphhbhcpaaDoor.okG
  rw [s.body_len]
  simp
  omega
theorem Sup.make_ok {s : Sup} (h : s.ok = true) : s.make = pageL (s.ver % 2) 1 s.body := by unfold Sup.make; rw [h]; rfl
theorem Sup.make_len {s : Sup} (h : s.ok = true) : s.make.length = 4096 := by rw [Sup.make_ok h]; exact pageL_len (by rw [s.body_len]; omega)
theorem Sup.make_byte (s : Sup) : isB s.make := by
  unfold Sup.make
  split
  · exact pageL_byte s.body_byte
  · exact isB.nil
/-- What a body says. -/
def supOf (x : List Int) : Sup := ⟨readP x 4 8, readP x 12 8, readP x 20 8, readP x 28 8⟩
def supGood (x : List Int) : Bool := decide (x.length = 36) && (decide (x.take 4 = signL) && (decide (readE x 4 8 = 0 ∧ readE x 12 8 = 0 ∧ readE x 20 8 = 0 ∧ readE x 28 8 = 0)))
/-- What is wrong with a superblock's page under a number. -/
def sopE (l : List Int) (number : Int) : Int :=
  if number < 0 ∨ 1 < number then 1
  else if openE l number ≠ 0 then openE l number
  else if openK l number = 1 ∧ supGood (openL l number) = true ∧ (supOf (openL l number)).ok = true ∧ (supOf (openL l number)).ver % 2 = number then 0 else 140
def sopS (l : List Int) (number : Int) : Sup := if sopE l number = 0 then supOf (openL l number) else Sup.zero
def chE (a b : List Int) : Int := if sopE a 0 ≠ 0 ∧ sopE b 1 ≠ 0 then 140 else 0
def chS (a b : List Int) : Sup :=
  if sopE a 0 ≠ 0 then (if sopE b 1 ≠ 0 then Sup.zero else sopS b 1)
  else if sopE b 1 = 0 ∧ (sopS a 0).ver < (sopS b 1).ver then sopS b 1 else sopS a 0
/-- A number of eight bytes, read as it was written. -/
theorem read8 {a c : List Int} {n : Int} {k : Int} (hk : k = a.length) (h0 : 0 ≤ n) (hn : n ≤ 9223372036854775807) : readP (a ++ (leB 8 n ++ c)) k 8 = n ∧ readE (a ++ (leB 8 n ++ c)) k 8 = 0 := by
  have hc : cutB (a ++ (leB 8 n ++ c)) k 8 = leB 8 n := cut_at hk (by rw [leB_len]; rfl)
  have p8 : (256 : Int) ^ 8 = 18446744073709551616 := by decide
  have hv : valB (leB 8 n) = n := valB_of 8 h0 (by omega)
  have hl : (a ++ (leB 8 n ++ c)).length = a.length + (8 + c.length) := by simp [leB_len]
  have h1 : argR (a ++ (leB 8 n ++ c)) k 8 = true := decide_eq_true (by rw [hl]; omega)
  have h2 : lenR (a ++ (leB 8 n ++ c)) k 8 = true := decide_eq_true (by rw [hl]; omega)
  have h3 : topR (a ++ (leB 8 n ++ c)) k 8 = true := decide_eq_true (by rw [hc, hv]; exact hn)
  have hE : readE (a ++ (leB 8 n ++ c)) k 8 = 0 := by
    unfold readE
    rw [h1, h2, h3]
    rfl
  refine ⟨?_, hE⟩
  unfold readP
  rw [hE, if_pos rfl, hc, hv]
theorem sup_body {s : Sup} (h : s.ok = true) : supOf s.body = s ∧ supGood s.body = true := by
  obtain ⟨a1, a2, a3, a4, a5, a6, a7, a8⟩ := Sup.ok_yes h
  have e1 := read8 (a := signL) (c := leB 8 s.root ++ (leB 8 s.ep ++ leB 8 s.pag)) (n := s.ver) (k := 4) rfl (by omega) (by omega)
  have e2 := read8 (a := signL ++ leB 8 s.ver) (c := leB 8 s.ep ++ leB 8 s.pag) (n := s.root) (k := 12) (by simp [leB_len, signL]) (by omega) (by omega)
  have e3 := read8 (a := signL ++ (leB 8 s.ver ++ leB 8 s.root)) (c := leB 8 s.pag) (n := s.ep) (k := 20) (by simp [leB_len, signL]) (by omega) (by omega)
  have e4 := read8 (a := signL ++ (leB 8 s.ver ++ (leB 8 s.root ++ leB 8 s.ep))) (c := []) (n := s.pag) (k := 28) (by simp [leB_len, signL]) (by omega) (by omega)
  have b2 : signL ++ leB 8 s.ver ++ (leB 8 s.root ++ (leB 8 s.ep ++ leB 8 s.pag)) = s.body := by simp [Sup.body]
  have b3 : signL ++ (leB 8 s.ver ++ leB 8 s.root) ++ (leB 8 s.ep ++ leB 8 s.pag) = s.body := by simp [Sup.body]
  have b4 : signL ++ (leB 8 s.ver ++ (leB 8 s.root ++ leB 8 s.ep)) ++ (leB 8 s.pag ++ []) = s.body := by simp [Sup.body]
  rw [b2] at e2
  rw [b3] at e3
  rw [b4] at e4
  have e1 : readP s.body 4 8 = s.ver ∧ readE s.body 4 8 = 0 := e1
  refine ⟨?_, ?_⟩
  · unfold supOf
    rw [e1.1, e2.1, e3.1, e4.1]
  · unfold supGood
    rw [s.body_len, e1.2, e2.2, e3.2, e4.2]
    simp [Sup.body, signL]
/-- A superblock is opened as it was made. -/
theorem sop_made {s : Sup} (h : s.ok = true) (m : Int) : sopE s.make m = (if m < 0 ∨ 1 < m then 1 else if m = s.ver % 2 then 0 else 121) ∧ sopS s.make (s.ver % 2) = s := by
  have ho := fun m => open_made (number := s.ver % 2) (kind := 1) (body := s.body) Sup.okG s.body_byte m
  have hb := sup_body h
  rw [← Sup.make_ok h] at ho
  have hv : ¬ (s.ver % 2 < 0 ∨ 1 < s.ver % 2) := by omega
  have hE : ∀ m, sopE s.make m = (if m < 0 ∨ 1 < m then 1 else if m = s.ver % 2 then 0 else 121) := fun m => by
    unfold sopE
    by_cases h1 : m < 0 ∨ 1 < m
    · rw [if_pos h1, if_pos h1]
    · rw [if_neg h1, if_neg h1]
      by_cases h2 : m = s.ver % 2
      · subst h2
        have hE0 : openE s.make (s.ver % 2) = 0 := by rw [(ho _).1, if_pos rfl]
        rw [if_neg (fun h => h hE0), (ho (s.ver % 2)).2.1, (ho (s.ver % 2)).2.2, hb.1, hb.2, if_pos ⟨rfl, rfl, h, rfl⟩, if_pos rfl]
      · have hE0 : openE s.make m = 121 := by rw [(ho _).1, if_neg h2]
        rw [hE0, if_pos (by decide), if_neg h2]
  refine ⟨hE m, ?_⟩
  unfold sopS
  rw [hE, if_neg hv, if_pos rfl, if_pos rfl, (ho (s.ver % 2)).2.2, hb.1]
/-- A page is made as it was opened. -/
theorem make_opened {l : List Int} {number : Int} (hB : isB l) (h : openE l number = 0) (h0 : 0 ≤ number) : pageL number (openK l number) (openL l number) = l ∧ (openL l number).length ≤ 4085 := by
  have hk : openK l number = kindG l := by unfold openK; rw [if_pos h]
  have hL : openL l number = (l.drop 11).take (lenG l).toNat := by unfold openL; rw [if_pos h]
  unfold openE at h
  by_cases c1 : l.length = 4096
  rotate_left
  · rw [if_neg c1] at h; exact absurd h (by decide)
  rw [if_pos c1] at h
  by_cases c2 : moreP 0 (l.drop 4) = valB (cutB l 0 4)
  rotate_left
  · rw [if_neg c2] at h; exact absurd h (by decide)
  rw [if_pos c2] at h
  by_cases c3 : valB (cutB l 4 4) = number
  rotate_left
  · rw [if_neg c3] at h; exact absurd h (by decide)
  rw [if_pos c3] at h
  by_cases c4 : kindG l = 0 ∨ 4085 < lenG l
  · rw [if_pos c4] at h; exact absurd h (by decide)
  rw [if_neg c4] at h
  cases c5 : clean l
  · rw [c5] at h; exact absurd h (by decide)
  have hlg := lenG_rng hB
  have hlen : (openL l number).length = (lenG l).toNat := by rw [hL, List.length_take, List.length_drop]; omega
  have cut_len : ∀ a s : Nat, a + s ≤ 4096 → (cutB l a s).length = s := fun a s hs => by
    unfold cutB
    rw [Int.toNat_natCast, Int.toNat_natCast, List.length_take, List.length_drop]
    omega
  have cut_b : ∀ a s : Nat, isB (cutB l a s) := fun a s => (hB.drop _).take' _
  have s0 : leB 4 (moreP 0 (l.drop 4)) = cutB l 0 4 := by
    rw [c2]
    have := leB_valB (cutB l 0 4) (cut_b 0 4)
    rw [show (cutB l 0 4).length = 4 from cut_len 0 4 (by omega)] at this
    exact this
  have s1 : leB 4 number = cutB l 4 4 := by
    rw [← c3]
    have := leB_valB (cutB l 4 4) (cut_b 4 4)
    rw [show (cutB l 4 4).length = 4 from cut_len 4 4 (by omega)] at this
    exact this
  have s3 : leB 2 ((openL l number).length : Int) = cutB l 9 2 := by
    rw [hlen, Int.toNat_of_nonneg hlg.1]
    have := leB_valB (cutB l 9 2) (cut_b 9 2)
    rw [show (cutB l 9 2).length = 2 from cut_len 9 2 (by omega)] at this
    exact this
  have s2 : leB 1 (openK l number) = (l.drop 8).take 1 := by
    have hx : l[8]? = some (kindG l) := by
      unfold kindG
      rw [List.getD_eq_getElem?_getD, List.getElem?_eq_getElem (by omega)]
      rfl
    have hb := hB.at' hx
    rw [hk]
    have e1 : (l.drop 8).take 1 = [kindG l] := by
      rw [List.drop_eq_getElem_cons (by omega)]
      obtain ⟨_, e⟩ := List.getElem?_eq_some_iff.1 hx
      rw [e]
      rfl
    rw [e1]
    show [kindG l % 256] = _
    rw [show kindG l % 256 = kindG l by omega]
  have s4 : openL l number ++ List.replicate (4085 - (openL l number).length) 0 = l.drop 11 := by
    have hz : List.replicate (4085 - (openL l number).length) 0 = (l.drop 11).drop (lenG l).toNat := by
      have hc := c5
      unfold clean at hc
      rw [List.drop_drop]
      have hl : (l.drop (11 + (lenG l).toNat)).length = 4085 - (openL l number).length := by rw [List.length_drop, c1, hlen]; omega
      rw [← hl]
      refine (List.eq_replicate_iff.2 ⟨rfl, fun b hb => ?_⟩).symm
      have := List.all_eq_true.1 hc b hb
      simpa using this
    rw [hz, hL, List.take_append_drop]
  have hrest : restL number (openK l number) (openL l number) = l.drop 4 := by
    unfold restL
    rw [s1, s2, s3, s4]
    have d1 : l.drop 4 = cutB l 4 4 ++ ((l.drop 8).take 1 ++ (cutB l 9 2 ++ l.drop 11)) := by
      have e1 : l.drop 4 = (l.drop 4).take 4 ++ l.drop 8 := by
        conv => lhs; rw [← List.take_append_drop 4 (l.drop 4)]
        rw [List.drop_drop]
      have e2 : l.drop 8 = (l.drop 8).take 1 ++ l.drop 9 := by
        conv => lhs; rw [← List.take_append_drop 1 (l.drop 8)]
        rw [List.drop_drop]
      have e3 : l.drop 9 = (l.drop 9).take 2 ++ l.drop 11 := by
        conv => lhs; rw [← List.take_append_drop 2 (l.drop 9)]
        rw [List.drop_drop]
      show l.drop 4 = (l.drop 4).take 4 ++ ((l.drop 8).take 1 ++ ((l.drop 9).take 2 ++ l.drop 11))
      rw [← e3, ← e2, ← e1]
    exact d1.symm
  refine ⟨?_, by rw [hlen]; omega⟩
  unfold pageL
  rw [hrest, s0]
  show (l.drop 0).take 4 ++ l.drop 4 = l
  rw [List.drop_zero, List.take_append_drop]
theorem sop_at {l : List Int} {n : Int} (h : sopE l n = 0) : (n = 0 ∨ n = 1) ∧ openE l n = 0 ∧ openK l n = 1 ∧ supGood (openL l n) = true ∧ (sopS l n).ok = true ∧ (sopS l n).ver % 2 = n ∧ sopS l n = supOf (openL l n) := by
  have hs : sopS l n = supOf (openL l n) := by unfold sopS; rw [if_pos h]
  rw [hs]
  unfold sopE at h
  split at h
  · exact absurd h (by decide)
  · rename_i h1
    split at h
    · rename_i h2; exact absurd h h2
    · rename_i h2
      split at h
      · rename_i h3
        exact ⟨by omega, by omega, h3.1, h3.2.1, h3.2.2.1, h3.2.2.2, rfl⟩
      · exact absurd h (by decide)
theorem readE_len {x : List Int} {a : Nat} (h : readE x a 8 = 0) : readP x a 8 = valB ((x.drop a).take 8) := by
  unfold readP
  rw [if_pos h]
  rfl
/-- A superblock is made as it was opened. -/
theorem made_sop {l : List Int} {n : Int} (hB : isB l) (h : sopE l n = 0) : (sopS l n).make = l := by
  obtain ⟨h0, h1, h2, h3, h4, h5, h6⟩ := sop_at h
  have hm := make_opened hB h1 (by omega)
  rw [Sup.make_ok h4, h5]
  have hb : (sopS l n).body = openL l n := by
    rw [h6]
    generalize hx : openL l n = x at *
    have hxb : isB x := by
      rw [← hx]
      unfold openL
      rw [if_pos h1]
      exact (hB.drop _).take' _
    unfold supGood at h3
    simp only [Bool.and_eq_true, decide_eq_true_eq] at h3
    obtain ⟨q1, q2, q3, q4, q5, q6⟩ := h3
    have hcut : ∀ a : Nat, a + 8 ≤ 36 → leB 8 (valB ((x.drop a).take 8)) = (x.drop a).take 8 := fun a ha => by
      have := leB_valB ((x.drop a).take 8) ((hxb.drop a).take' 8)
      rw [show ((x.drop a).take 8).length = 8 by rw [List.length_take, List.length_drop]; omega] at this
      exact this
    have hd : ∀ a : Nat, (x.drop a).take 8 ++ x.drop (a + 8) = x.drop a := fun a => by
      rw [show x.drop (a + 8) = (x.drop a).drop 8 by rw [List.drop_drop], List.take_append_drop]
    unfold Sup.body supOf
    show signL ++ (leB 8 (readP x ((4 : Nat) : Int) 8) ++ (leB 8 (readP x ((12 : Nat) : Int) 8) ++ (leB 8 (readP x ((20 : Nat) : Int) 8) ++ leB 8 (readP x ((28 : Nat) : Int) 8)))) = x
    rw [readE_len (a := 4) q3, readE_len (a := 12) q4, readE_len (a := 20) q5, readE_len (a := 28) q6, hcut 4 (by omega), hcut 12 (by omega), hcut 20 (by omega), hcut 28 (by omega)]
    have e28 : (x.drop 28).take 8 = x.drop 28 := List.take_of_length_le (by rw [List.length_drop]; omega)
    rw [e28, hd 20, hd 12, hd 4, ← q2, List.take_append_drop]
  rw [hb, ← h2]
  exact hm.1
/-- A page of zeros is no superblock's. -/
theorem sop_zeros (n : Int) : sopE (List.replicate 4096 0) n ≠ 0 := fun h => by
  obtain ⟨h0, h1, h2, -⟩ := sop_at h
  unfold openK at h2
  rw [if_pos h1] at h2
  have hk : kindG (List.replicate 4096 0) = 0 := by
    unfold kindG
    rw [List.getD_eq_getElem?_getD, List.getElem?_replicate]
    rfl
  rw [hk] at h2
  exact absurd h2 (by decide)
end Go.Proofs.YtonjapphhbhcpaaDoor
