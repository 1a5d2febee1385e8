/- A page is opened as it was made; a page that was turned is refused: plain words. No statement is proved here. -/
import Derived.Test.YtlpnhfceblbllaaDoorGOpen
import Derived.Test.YtlpnhfceblbllaaDoorSLaw5
namespace Go.Proofs.YtlpnhfceblbllaaDoor
open Go.RowKit
set_option maxRecDepth 100000

theorem cut_at {a b c : List Int} {n s : Int} (ha : n = a.length) (hb : s = b.length) : cutB (a ++ (b ++ c)) n s = b := by
  subst ha hb
  unfold cutB
  rw [Int.toNat_natCast, Int.toNat_natCast, List.drop_left' rfl, List.take_left' rfl]
theorem page_sum (number kind : Int) (body : List Int) : cutB (pageL number kind body) 0 4 = leB 4 (moreP 0 (restL number kind body)) := by
  have h := cut_at (a := []) (b := leB 4 (moreP 0 (restL number kind body))) (c := restL number kind body) (n := 0) (s := 4) rfl (by rw [leB_len]; rfl)
  exact h
theorem page_rest (number kind : Int) (body : List Int) : (pageL number kind body).drop 4 = restL number kind body := List.drop_left' (leB_len _ _)
theorem page_number (number kind : Int) (body : List Int) : cutB (pageL number kind body) 4 4 = leB 4 number := by
  unfold pageL restL
  exact cut_at (by rw [leB_len]; rfl) (by rw [leB_len]; rfl)
theorem page_len (number kind : Int) (body : List Int) : cutB (pageL number kind body) 9 2 = leB 2 (body.length : Int) := by
  have e : pageL number kind body = (leB 4 (moreP 0 (restL number kind body)) ++ leB 4 number ++ leB 1 kind) ++ (leB 2 (body.length : Int) ++ (body ++ List.replicate (4085 - body.length) 0)) := by
    conv => lhs; unfold pageL; rhs; unfold restL
    simp only [List.append_assoc]
  rw [e]
  exact cut_at (by simp only [List.length_append, leB_len]; rfl) (by rw [leB_len]; rfl)
theorem page_body (number kind : Int) (body : List Int) : (pageL number kind body).drop 11 = body ++ List.replicate (4085 - body.length) 0 := by
  have e : pageL number kind body = (leB 4 (moreP 0 (restL number kind body)) ++ leB 4 number ++ leB 1 kind ++ leB 2 (body.length : Int)) ++ (body ++ List.replicate (4085 - body.length) 0) := by
    conv => lhs; unfold pageL; rhs; unfold restL
    simp only [List.append_assoc]
  rw [e]
  exact List.drop_left' (by simp only [List.length_append, leB_len])
theorem page_kind (number kind : Int) (body : List Int) : kindG (pageL number kind body) = kind % 256 := by
  have e : pageL number kind body = (leB 4 (moreP 0 (restL number kind body)) ++ leB 4 number) ++ (kind % 256 :: (leB 2 (body.length : Int) ++ (body ++ List.replicate (4085 - body.length) 0))) := by
    conv => lhs; unfold pageL; rhs; unfold restL
    simp only [List.append_assoc]
    rfl
  unfold kindG
  rw [e, List.getD_eq_getElem?_getD, List.getElem?_append_right (by simp only [List.length_append, leB_len]; omega)]
  simp only [List.length_append, leB_len]
  rfl
theorem valB_of (k : Nat) {n : Int} (h0 : 0 ≤ n) (hn : n < 256 ^ k) : valB (leB k n) = n := by rw [valB_leB k n h0]; exact Int.emod_eq_of_lt h0 hn
theorem all_zeros (n : Nat) : (List.replicate n (0 : Int)).all (· == 0) = true := List.all_eq_true.2 fun x hx => by rw [List.eq_of_mem_replicate hx]; rfl
theorem open_made {number kind : Int} {body : List Int} (h : okG number kind body.length = true) (hB : isB body) (m : Int) :
    openE (pageL number kind body) m = (if m = number then 0 else 121) ∧ openK (pageL number kind body) number = kind ∧ openL (pageL number kind body) number = body := by
  obtain ⟨h1, h2, h3, h4, h5⟩ := okG_yes h
  have hs := moreP_rng (s := 0) (restL_byte (number := number) (kind := kind) hB)
  have p256 : (256 : Int) ^ 4 = 4294967296 := by decide
  have p2 : (256 : Int) ^ 2 = 65536 := by decide
  have e1 : valB (cutB (pageL number kind body) 0 4) = moreP 0 (restL number kind body) := by rw [page_sum]; exact valB_of 4 hs.1 (by omega)
  have e2 : valB (cutB (pageL number kind body) 4 4) = number := by rw [page_number]; exact valB_of 4 h1 (by omega)
  have e3 : lenG (pageL number kind body) = body.length := by unfold lenG; rw [page_len]; exact valB_of 2 (by omega) (by omega)
  have e4 : kindG (pageL number kind body) = kind := by rw [page_kind]; omega
  have hd : (pageL number kind body).drop (11 + body.length) = List.replicate (4085 - body.length) 0 := by
    rw [← List.drop_drop, page_body]
    exact List.drop_left' rfl
  have e5 : clean (pageL number kind body) = true := by unfold clean; rw [e3, Int.toNat_natCast, hd]; exact all_zeros _
  have hE : ∀ m, openE (pageL number kind body) m = if m = number then 0 else 121 := fun m => by
    unfold openE
    rw [if_pos (pageL_len h5), page_rest, e1, if_pos rfl, e2, e3, e4, e5]
    by_cases hm : m = number
    · rw [if_pos hm.symm, if_pos hm, if_neg (by omega), if_pos rfl]
    · rw [if_neg (fun e => hm e.symm), if_neg hm]
  have h0 : openE (pageL number kind body) number = 0 := by rw [hE, if_pos rfl]
  refine ⟨hE m, ?_, ?_⟩
  · unfold openK; rw [if_pos h0, e4]
  · unfold openL; rw [if_pos h0, page_body, e3, Int.toNat_natCast]; exact List.take_left' rfl
/-- Turned bytes are told. -/
theorem open_turned {l d : List Int} {number : Int} {k i : Nat} {b : Bool} (h0 : openE l number = 0) (hB : isB l) (h : Turned l k i d b) (h4 : i ≤ 4) (hk : 4 ≤ k ∨ k + i ≤ 4) :
    (openE (l.take k ++ (d ++ l.drop (k + i))) number == 0) = b := by
  have hl : l.length = 4096 := by
    unfold openE at h0
    split at h0
    · assumption
    · exact absurd h0 (by decide)
  have hll : (l.take k ++ (d ++ l.drop (k + i))).length = 4096 := by rw [List.length_append, List.length_append, h.len, List.length_take, List.length_drop]; have := h.fits; omega
  have hsum : moreP 0 (l.drop 4) = valB (cutB l 0 4) := by
    unfold openE at h0
    rw [if_pos hl] at h0
    split at h0
    · assumption
    · exact absurd h0 (by decide)
  have hpart : l = l.take k ++ ((l.drop k).take i ++ l.drop (k + i)) := by
    rw [show l.drop (k + i) = (l.drop k).drop i by rw [List.drop_drop], List.take_append_drop, List.take_append_drop]
  by_cases hd : d = (l.drop k).take i
  · have hb : b = true := by rw [h.same_]; exact decide_eq_true hd
    rw [hd, ← hpart, h0, hb]
    rfl
  · have hb : b = false := by rw [h.same_]; exact decide_eq_false hd
    have hf := h.fits
    have hlen := h.len
    rw [hb]
    have key : moreP 0 ((l.take k ++ (d ++ l.drop (k + i))).drop 4) ≠ valB (cutB (l.take k ++ (d ++ l.drop (k + i))) 0 4) := by
      rcases hk with hk | hk
      · have e1 : (l.take k ++ (d ++ l.drop (k + i))).drop 4 = (l.drop 4).take (k - 4) ++ (d ++ l.drop (k + i)) := by
          rw [List.drop_append_of_le_length (by rw [List.length_take]; omega), List.drop_take]
        have e2 : l.drop 4 = (l.drop 4).take (k - 4) ++ ((l.drop k).take i ++ l.drop (k + i)) := by
          have := congrArg (List.drop 4) hpart
          rw [List.drop_append_of_le_length (by rw [List.length_take]; omega), List.drop_take] at this
          exact this
        have e3 : cutB (l.take k ++ (d ++ l.drop (k + i))) 0 4 = cutB l 0 4 := by
          unfold cutB
          show ((l.take k ++ (d ++ l.drop (k + i))).drop 0).take 4 = (l.drop 0).take 4
          rw [List.drop_zero, List.drop_zero, List.take_append_of_le_length (by rw [List.length_take]; omega), List.take_take, show min 4 k = 4 by omega]
        rw [e1, e3, ← hsum]
        intro hc
        have ht := (tells_is (a := (l.drop 4).take (k - 4)) (c := l.drop (k + i)) h.byte ((hB.drop k).take' i) (by rw [hlen, List.length_take, List.length_drop]; omega) (by omega)).1
        rw [← e2] at ht
        exact hd (ht hc)
      · have hlk : (l.take k).length = k := by rw [List.length_take]; omega
        have e1 : (l.take k ++ (d ++ l.drop (k + i))).drop 4 = l.drop 4 := by
          have hkd : (l.take k ++ d).length = k + i := by rw [List.length_append, hlk, hlen]
          rw [← List.append_assoc, List.drop_append, List.drop_eq_nil_of_le (by omega), List.nil_append, hkd, List.drop_drop, show k + i + (4 - (k + i)) = 4 by omega]
        have e2 : ∀ q : List Int, q.length = i → cutB (l.take k ++ (q ++ l.drop (k + i))) 0 4 = l.take k ++ (q ++ (l.drop (k + i)).take (4 - (k + i))) := fun q hq => by
          have hkd : (l.take k ++ q).length = k + i := by rw [List.length_append, hlk, hq]
          show ((l.take k ++ (q ++ l.drop (k + i))).drop 0).take 4 = _
          rw [List.drop_zero, ← List.append_assoc, List.take_append, List.take_of_length_le (by omega), hkd, List.append_assoc]
        have hpl : ((l.drop k).take i).length = i := by rw [List.length_take, List.length_drop]; omega
        have e3 : cutB l 0 4 = l.take k ++ ((l.drop k).take i ++ (l.drop (k + i)).take (4 - (k + i))) := by
          rw [← e2 _ hpl, ← hpart]
        rw [e1, hsum]
        intro hc
        have b1 : isB (cutB l 0 4) := (hB.drop _).take' _
        have b2 : isB (cutB (l.take k ++ (d ++ l.drop (k + i))) 0 4) := by
          rw [e2 d hlen]
          exact (hB.take' k).append (h.byte.append ((hB.drop _).take' _))
        have l1 : (cutB l 0 4).length = 4 := by
          show ((l.drop 0).take 4).length = 4
          rw [List.drop_zero, List.length_take]; omega
        have l2 : (cutB (l.take k ++ (d ++ l.drop (k + i))) 0 4).length = 4 := by
          show (((l.take k ++ (d ++ l.drop (k + i))).drop 0).take 4).length = 4
          rw [List.drop_zero, List.length_take]; omega
        have q1 := leB_valB _ b1
        have q2 := leB_valB _ b2
        rw [l1] at q1
        rw [l2] at q2
        have q : cutB l 0 4 = cutB (l.take k ++ (d ++ l.drop (k + i))) 0 4 := by rw [← q1, ← q2, hc]
        rw [e3, e2 d hlen] at q
        exact hd (List.append_inj (List.append_cancel_left q) (by rw [hpl, hlen])).1.symm
    unfold openE
    rw [if_pos hll, if_neg key]
    rfl
end Go.Proofs.YtlpnhfceblbllaaDoor
