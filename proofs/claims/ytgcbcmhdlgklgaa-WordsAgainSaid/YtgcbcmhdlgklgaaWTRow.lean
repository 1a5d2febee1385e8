/- Rows of counted words: how they lie, one more laid into them. No statement is proved here. -/
import Derived.Test.YtgcbcmhdlgklgaaWTPure
import Derived.Laws.IdiomCopy
import Derived.Deep.AppendLies
namespace Go.Proofs.Ytgcbcmhdlgklgaa
open Go.RowKit Go.Lib
set_option maxRecDepth 100000

def tcells (p : Tm) : List Value := [.string (strOfNums p.1), .int .i64 (p.2 : Nat)]
theorem tcells_len (p : Tm) : (tcells p).length = 2 := rfl
theorem flat_lenT (l : List Tm) : (l.flatMap tcells).length = l.length * 2 := by induction l with
  | nil => rfl
  | cons x r ih => rw [List.flatMap_cons, List.length_append, ih, tcells_len, List.length_cons]; omega
theorem cells_oneT (l : List Tm) : ∀ u ∈ l.flatMap tcells, u.oneCell' = true := by
  intro u hu
  obtain ⟨p, -, hp⟩ := List.mem_flatMap.1 hu
  simp only [tcells, List.mem_cons, List.not_mem_nil, or_false] at hp
  rcases hp with rfl | rfl <;> rfl
theorem flat_at {l : List Tm} {j : Nat} {p : Tm} (h : l[j]? = some p) : (l.flatMap tcells)[j * 2]? = some (.string (strOfNums p.1)) ∧ (l.flatMap tcells)[j * 2 + 1]? = some (.int .i64 (p.2 : Nat)) := by
  induction l generalizing j with
  | nil => simp at h
  | cons q r ih =>
    rw [List.flatMap_cons]
    cases j with
    | zero => simp at h; subst h; exact ⟨rfl, rfl⟩
    | succ j =>
      have := ih (j := j) (by simpa using h)
      rw [show (j + 1) * 2 = j * 2 + 2 by omega, List.getElem?_append_right (by rw [tcells_len]; omega), List.getElem?_append_right (by rw [tcells_len]; omega), tcells_len]
      exact this
theorem info_term : (Try.prog.info? 38).map (fun i => (i.zero, i.size, i.bytes)) = some (some (.agg #[.string ⟨#[]⟩, .int .i64 0]), 2, 24) := by kernel_rfl
/-- A row of counted words of a call's own. -/
def OwnT (w : World) (B : Nat) (v : Value) (L : List Tm) : Prop := w.ownsRow B 38 2 v L.length (L.flatMap tcells)
theorem OwnT.nil (w : World) (B : Nat) : OwnT w B (.slice none 0 0) [] := World.ownsRow_nil _ _ _ _
theorem OwnT.then_ {w w' : World} {B : Nat} {v : Value} {L : List Tm} (h : OwnT w B v L) (hb : Below w.heap.size w w') : OwnT w' B v L := row_keep h hb
theorem OwnT.block {w : World} {B : Nat} {v : Value} {L : List Tm} (h : OwnT w B v L) : ∀ g, v.ownBlock = some g → B ≤ g ∧ g < w.heap.size := World.ownsRow.lt h
theorem OwnT.form {w : World} {B : Nat} {v : Value} {L : List Tm} (h : OwnT w B v L) : ∃ a c, v = .slice a L.length c ∧ ∀ j p, L[j]? = some p → ∃ g, a = some ⟨g, 0, none⟩ ∧ v = .slice (some ⟨g, 0, none⟩) L.length c ∧ w.cell? ⟨g, j * 2, none⟩ = some (.string (strOfNums p.1)) ∧ w.cell? ⟨g, j * 2 + 1, none⟩ = some (.int .i64 (p.2 : Nat)) := by
  have h0 := h
  obtain ⟨h1, h2⟩ := h
  rcases h2 with ⟨hv, hz⟩ | ⟨g, cap, cur, hv, hb, hg, hle, hcm, hrest⟩
  · have e : L = [] := List.eq_nil_of_length_eq_zero hz
    subst e
    exact ⟨none, 0, hv, fun j p hp => by simp at hp⟩
  · subst hv
    refine ⟨some ⟨g, 0, none⟩, cap, rfl, fun j p hp => ⟨g, rfl, rfl, ?_⟩⟩
    have hj := lt_of_get hp
    obtain ⟨f1, f2⟩ := flat_at hp
    exact ⟨by rw [World.ownsRow.cellAt h0 (j * 2) (by omega), f1], by rw [World.ownsRow.cellAt h0 (j * 2 + 1) (by omega), f2]⟩
theorem setCells_put' (g : Nat) (vs : List Value) : ∀ (o : Nat) (w : World), w.setCells g o vs = putCells w g o vs := by
  induction vs with
  | nil => intro o w; rfl
  | cons v r ih => intro o w; exact ih (o + 1) _
theorem own_mid {w : World} {B : Nat} {e : TypeId} {c g n cap : Nat} {xs ys vs us : List Value} (h : w.ownsRow B e c (.slice (some ⟨g, 0, none⟩) n cap) n (xs ++ vs ++ ys)) (hv : us.length = vs.length) :
    (putCells w g xs.length us).ownsRow B e c (.slice (some ⟨g, 0, none⟩) n cap) n (xs ++ us ++ ys) := by
  obtain ⟨h1, h2⟩ := h
  rcases h2 with ⟨hv', h0, _⟩ | ⟨g', cap', cur, hv', hb, hg, hkc, hm, hs, ht⟩
  · cases hv'
  · injection hv' with e1 e2 e3
    injection e1 with e1
    injection e1 with e1
    subst e1 e3
    have hnc := Nat.mul_le_mul_right c hkc
    simp only [List.length_append] at h1
    obtain ⟨cur', g1, g2, g3⟩ := put_block (g := g) us xs.length cur w hg (by omega)
    refine ⟨by simp only [List.length_append]; omega, .inr ⟨g, cap, cur', rfl, hb, g1, hkc, hm, by rw [g2, hs], ?_⟩⟩
    apply List.ext_getElem?
    intro i
    have hxs : ∀ i, i < n * c → (xs ++ vs ++ ys)[i]? = cur[i]? := fun i hi => by rw [← ht, List.getElem?_take_of_lt hi, Array.getElem?_toList]
    by_cases c1 : i < n * c
    · rw [List.getElem?_take_of_lt c1, Array.getElem?_toList, g3]
      by_cases c2 : i < xs.length
      · rw [if_neg (by omega), List.append_assoc, List.getElem?_append_left c2, ← hxs i c1, List.append_assoc, List.getElem?_append_left c2]
      · by_cases c3 : i < xs.length + us.length
        · rw [if_pos (by omega), List.append_assoc, List.getElem?_append_right (by omega), List.getElem?_append_left (by omega)]
        · rw [if_neg (by omega), ← hxs i c1, List.getElem?_append_right (by simp; omega), List.getElem?_append_right (by simp; omega)]
          simp only [List.length_append, hv]
    · rw [List.getElem?_eq_none (by rw [List.length_take, Array.length_toList, g2]; omega), List.getElem?_eq_none (by simp only [List.length_append]; omega)]

theorem run_copy2 (w : World) (ty : TypeId) (b o dLen dCap : Nat) (a : Addr) (sLen sCap : Nat) (cs : List Value) (hn : cs.length = Nat.min sLen dLen * 2)
    (hsrc : ∀ j v, cs[j]? = some v → w.cell? (a.add j) = some v) (hc : ∀ j, j < cs.length → (w.cell? ⟨b, o + j, none⟩).isSome = true) (hf : ∀ j, j < cs.length → w.frozen? ⟨b, o + j, none⟩ = false) (h1 : ∀ v ∈ cs, v.oneCell' = true) :
    (Builtin.copy_ #[33, 33] ty #[.slice (some ⟨b, o, none⟩) dLen dCap, .slice (some a) sLen sCap]).run Try.prog w = .ok (goInt (Nat.min sLen dLen)) (putCells w b o cs) := by
  have hl := run_firstCells_some (P := Try.prog) (w := w) 2 (Nat.min sLen dLen) a sLen sCap cs hn hsrc
  have hst := run_storeCells_cells (P := Try.prog) b o cs 0 w (by simpa using hc) (by simpa using hf) h1
  rw [Nat.add_zero, setCells_put'] at hst
  obtain ⟨i, hi, hz, hsz, hby⟩ := info_parts info_term
  simp [Builtin.copy_, run_underlying Try.underlying33, Builtin.lenOf, sizeOf, typeInfo, hi, hsz, hl, hst]
theorem step_copy2 {ops : Array Oper} {o : Oper} {a : Act} {w : World} {K : Act → World → Prop} {Q : Exit → Act → World → Prop} {E : Prop} (hgd : o.guard = none) (d s : Operand)
    (ho : o.op = Op.call { callee := Callee.builtin Builtin.copy, args := #[d, s], argTypes := #[33, 33] }) (b off dLen dCap : Nat) (hd : a.eval d = .slice (some ⟨b, off, none⟩) dLen dCap) (ad : Addr) (sLen sCap : Nat) (hs : a.eval s = .slice (some ad) sLen sCap)
    (cs : List Value) (hn : cs.length = Nat.min sLen dLen * 2) (hsrc : ∀ j v, cs[j]? = some v → w.cell? (ad.add j) = some v) (hc : ∀ j, j < cs.length → (w.cell? ⟨b, off + j, none⟩).isSome = true) (hf : ∀ j, j < cs.length → w.frozen? ⟨b, off + j, none⟩ = false) (h1 : ∀ v ∈ cs, v.oneCell' = true)
    (h : K (a.put o.dst (goInt (Nat.min sLen dLen))) (putCells w b off cs)) : if Region.wanted o (yielded ops a.tmps) = true then Oper.wp Try.prog o a w K Q else E := by
  have hw : Region.wanted o (yielded ops a.tmps) = true := by simp [Region.wanted, hgd]
  rw [if_pos hw]
  have hrun := run_copy2 w o.type b off dLen dCap ad sLen sCap cs hn hsrc hc hf h1
  unfold Oper.wp
  simp [execOp, ho, resolve, invoke, builtin, hd, hs, hrun, Result.andThen]
  exact h

theorem own_insert2 {w : World} {B g n k cap : Nat} {us : List Tm} {y z : Tm} (hk : k ≤ n) (hn : us.length = n) (h : w.ownsRow B 38 2 (.slice (some ⟨g, 0, none⟩) (n + 1) cap) (n + 1) (us.flatMap tcells ++ (tcells z))) :
    (putCells (putCells w g ((k + 1) * 2) ((us.drop k).flatMap tcells)) g (k * 2) (tcells y)).ownsRow B 38 2 (.slice (some ⟨g, 0, none⟩) (n + 1) cap) (n + 1) ((us.take k ++ y :: us.drop k).flatMap tcells) := by
  have hlen : (us.flatMap tcells ++ (tcells z)).length = (n + 1) * 2 := h.1
  have hd : ((us.drop k).flatMap tcells).length = (n - k) * 2 := by rw [flat_lenT, List.length_drop, hn]
  generalize hX : us.flatMap tcells ++ (tcells z) = X at h hlen
  have e1 : X = X.take ((k + 1) * 2) ++ X.drop ((k + 1) * 2) ++ [] := by rw [List.append_nil, List.take_append_drop]
  rw [e1] at h
  have h1 := own_mid (us := (us.drop k).flatMap tcells) h (by rw [hd, List.length_drop, hlen]; omega)
  have hl1 : (X.take ((k + 1) * 2)).length = (k + 1) * 2 := by rw [List.length_take, hlen]; omega
  rw [hl1, List.append_nil] at h1
  have e2 : X.take ((k + 1) * 2) = X.take (k * 2) ++ (X.drop (k * 2)).take 2 := by rw [show (k + 1) * 2 = k * 2 + 2 by omega, List.take_add]
  rw [e2] at h1
  have h2 := own_mid (us := (tcells y)) h1 (by rw [tcells_len, List.length_take, List.length_drop, hlen]; omega)
  have hl2 : (X.take (k * 2)).length = k * 2 := by rw [List.length_take, hlen]; omega
  rw [hl2] at h2
  have e3 : X.take (k * 2) = (us.take k).flatMap tcells := by
    rw [← hX]
    conv => lhs; rw [← List.take_append_drop k us, List.flatMap_append, List.append_assoc]
    rw [List.take_left' (by rw [flat_lenT, List.length_take, hn]; omega)]
  rw [e3] at h2
  rw [List.flatMap_append, List.flatMap_cons, ← List.append_assoc]
  exact h2
theorem insert_src2 {w : World} {B g n k cap : Nat} {us : List Tm} {y : Tm} (hk : k ≤ n) (hn : us.length = n) (h : w.ownsRow B 38 2 (.slice (some ⟨g, 0, none⟩) (n + 1) cap) (n + 1) (us.flatMap tcells ++ (tcells y))) :
    ∀ j v, ((us.drop k).flatMap tcells)[j]? = some v → w.cell? ((⟨g, k * 2, none⟩ : Addr).add j) = some v := by
  intro j v hj
  have hd : ((us.drop k).flatMap tcells).length = (n - k) * 2 := by rw [flat_lenT, List.length_drop, hn]
  have hjl := lt_of_get hj
  rw [hd] at hjl
  rw [show (⟨g, k * 2, none⟩ : Addr).add j = ⟨g, k * 2 + j, none⟩ by unfold Addr.add; split <;> simp_all]
  rw [h.cellAt (k * 2 + j) (by omega)]
  conv => lhs; rw [← List.take_append_drop k us, List.flatMap_append, List.append_assoc]
  have hl : ((us.take k).flatMap tcells).length = k * 2 := by rw [flat_lenT, List.length_take, hn]; omega
  rw [List.getElem?_append_right (by omega), hl, show k * 2 + j - k * 2 = j by omega, List.getElem?_append_left (by rw [hd]; omega), hj]

theorem ins_len2 {us : List Tm} {i k : Nat} (hk : k ≤ i) (hn : us.length = i) : ((us.drop k).flatMap tcells).length = Nat.min (i + 1 - k) (i - k) * 2 := by
  rw [flat_lenT, List.length_drop, hn]
  have : Nat.min (i + 1 - k) (i - k) = i - k := by
    show min (i + 1 - k) (i - k) = i - k
    omega
  rw [this]
theorem ins_room2 {w : World} {B g i k cap off : Nat} {us : List Tm} {xs : List Value} (hk : k ≤ i) (hn : us.length = i) (h : w.ownsRow B 38 2 (.slice (some ⟨g, 0, none⟩) (i + 1) cap) (i + 1) xs) (hc : i + 1 ≤ cap) (hoff : off = (k + 1) * 2 ∨ k = i) :
    ∀ j, j < ((us.drop k).flatMap tcells).length → (w.cell? ⟨g, off + j, none⟩).isSome = true ∧ w.frozen? ⟨g, off + j, none⟩ = false := by
  intro j hj
  rw [flat_lenT, List.length_drop, hn] at hj
  have ho : off = (k + 1) * 2 := hoff.elim id (fun e => by omega)
  subst ho
  obtain ⟨⟨v, hv⟩, hf⟩ := own_room h (j := (k + 1) * 2 + j) (by omega)
  exact ⟨by rw [hv]; rfl, hf⟩
theorem ins_off2 {w : World} {g i k off : Nat} {us : List Tm} (hn : us.length = i) (hoff : off = (k + 1) * 2 ∨ k = i) : putCells w g off ((us.drop k).flatMap tcells) = putCells w g ((k + 1) * 2) ((us.drop k).flatMap tcells) := by
  rcases hoff with rfl | h
  · rfl
  · rw [List.drop_eq_nil_of_le (by omega)]; rfl
theorem own_shift2 {w : World} {B g n k cap : Nat} {us : List Tm} {xs : List Value} (hk : k ≤ n) (hn : us.length = n) (h : w.ownsRow B 38 2 (.slice (some ⟨g, 0, none⟩) (n + 1) cap) (n + 1) xs) :
    ∃ ys, (putCells w g ((k + 1) * 2) ((us.drop k).flatMap tcells)).ownsRow B 38 2 (.slice (some ⟨g, 0, none⟩) (n + 1) cap) (n + 1) ys := by
  have hlen : xs.length = (n + 1) * 2 := h.1
  have hd : ((us.drop k).flatMap tcells).length = (n - k) * 2 := by rw [flat_lenT, List.length_drop, hn]
  have e1 : xs = xs.take ((k + 1) * 2) ++ xs.drop ((k + 1) * 2) ++ [] := by rw [List.append_nil, List.take_append_drop]
  rw [e1] at h
  have h1 := own_mid (us := (us.drop k).flatMap tcells) h (by rw [hd, List.length_drop, hlen]; omega)
  have hl1 : (xs.take ((k + 1) * 2)).length = (k + 1) * 2 := by rw [List.length_take, hlen]; omega
  rw [hl1] at h1
  exact ⟨_, h1⟩
theorem only_drew_put {w : World} {g o : Nat} {vs : List Value} : Only [g] w (putCells w.drew g o vs) := by
  have h := put_only vs g o w.drew
  exact ⟨h.os, h.tape, h.output, h.size, h.block⟩
theorem OwnT.at_ {w : World} {B n c : Nat} {a : Option Addr} {L : List Tm} (h : OwnT w B (.slice a n c) L) {j : Nat} {p : Tm} (hp : L[j]? = some p) : ∃ g, a = some ⟨g, 0, none⟩ ∧ w.cell? ⟨g, j * 2, none⟩ = some (.string (strOfNums p.1)) ∧ w.cell? ⟨g, j * 2 + 1, none⟩ = some (.int .i64 (p.2 : Nat)) ∧ w.frozen? ⟨g, j * 2 + 1, none⟩ = false := by
  obtain ⟨a', c', e, hh⟩ := h.form
  obtain ⟨g, rfl, e2, x0, x1⟩ := hh j p hp
  injection e with e3 e4 e5
  subst e3 e4 e5
  exact ⟨g, rfl, x0, x1, World.ownsRow.frozenAt h _⟩
theorem flat_set {L : List Tm} {j : Nat} {p : Tm} (hp : L[j]? = some p) (c : Nat) : (L.set j (p.1, c)).flatMap tcells = (L.flatMap tcells).set (j * 2 + 1) (.int .i64 (c : Nat)) := by
  induction L generalizing j with
  | nil => simp at hp
  | cons q r ih =>
    cases j with
    | zero => simp at hp; subst hp; rfl
    | succ j =>
      rw [List.set_cons_succ, List.flatMap_cons, List.flatMap_cons, ih (by simpa using hp), List.set_append_right _ _ (by rw [tcells_len]; omega), tcells_len]
      congr 2
      omega
theorem OwnT.count {w : World} {B n g c : Nat} {L : List Tm} (h : OwnT w B (.slice (some ⟨g, 0, none⟩) n c) L) {j : Nat} {p : Tm} (hp : L[j]? = some p) (d : Nat) : OwnT (w.setCell ⟨g, j * 2 + 1, none⟩ (.int .i64 (d : Nat))) B (.slice (some ⟨g, 0, none⟩) n c) (L.set j (p.1, d)) ∧ w.grownBy (w.setCell ⟨g, j * 2 + 1, none⟩ (.int .i64 (d : Nat))) (some g) := by
  obtain ⟨a', c', e, -⟩ := h.form
  injection e with e3 e4 e5
  subst e4
  obtain ⟨h1, h2⟩ := World.ownsRow.stored h (j * 2 + 1) (.int .i64 (d : Nat))
  refine ⟨?_, h2⟩
  unfold OwnT
  rw [List.length_set, flat_set hp]
  exact h1
end Go.Proofs.Ytgcbcmhdlgklgaa
