/- Plain words for an element laid into a row of the call's own: no statement is proved here. -/
import Derived.Test.YtlmlehjfockkpaaDoorSameList
import Derived.Test.YtlmlehjfockkpaaDoorStable
import Derived.Test.YtlmlehjfockkpaaDoorRefWithout
import Derived.Test.YtlmlehjfockkpaaDoorRefCmp
import Derived.Laws.IdiomCopy
namespace Go.Proofs.YtlmlehjfockkpaaDoor
open Go.RowKit
set_option maxRecDepth 100000

theorem setCells_put' (g : Nat) (vs : List Value) : ∀ (o : Nat) (w : World), w.setCells g o vs = putCells w g o vs := by
  induction vs with
  | nil => intro o w; rfl
  | cons v r ih => intro o w; exact ih (o + 1) _
/-- copy, of values: all is read before anything is written. -/
theorem run_copy5 (w : World) (ty : TypeId) (b o dLen dCap : Nat) (a : Addr) (sLen sCap : Nat) (cs : List Value) (hn : cs.length = Nat.min sLen dLen * 5)
    (hsrc : ∀ j v, cs[j]? = some v → w.cell? (a.add j) = some v) (hc : ∀ j, j < cs.length → (w.cell? ⟨b, o + j, none⟩).isSome = true) (hf : ∀ j, j < cs.length → w.frozen? ⟨b, o + j, none⟩ = false) (h1 : ∀ v ∈ cs, v.oneCell' = true) :
    (Builtin.copy_ #[22, 22] ty #[.slice (some ⟨b, o, none⟩) dLen dCap, .slice (some a) sLen sCap]).run Tryd.prog w = .ok (goInt (Nat.min sLen dLen)) (putCells w b o cs) := by
  have hl := run_firstCells_some (P := Tryd.prog) (w := w) 5 (Nat.min sLen dLen) a sLen sCap cs hn hsrc
  have hst := run_storeCells_cells (P := Tryd.prog) b o cs 0 w (by simpa using hc) (by simpa using hf) h1
  rw [Nat.add_zero, setCells_put'] at hst
  obtain ⟨i, hi, hz, hsz, hby⟩ := info_parts info_value
  simp [Builtin.copy_, run_underlying Tryd.underlying22, Builtin.lenOf, sizeOf, typeInfo, hi, hsz, hl, hst]
theorem step_copy5 {ops : Array Oper} {o : Oper} {a : Act} {w : World} {K : Act → World → Prop} {Q : Exit → Act → World → Prop} {E : Prop} (hgd : o.guard = none) (d s : Operand)
    (ho : o.op = Op.call { callee := Callee.builtin Builtin.copy, args := #[d, s], argTypes := #[22, 22] }) (b off dLen dCap : Nat) (hd : a.eval d = .slice (some ⟨b, off, none⟩) dLen dCap) (ad : Addr) (sLen sCap : Nat) (hs : a.eval s = .slice (some ad) sLen sCap)
    (cs : List Value) (hn : cs.length = Nat.min sLen dLen * 5) (hsrc : ∀ j v, cs[j]? = some v → w.cell? (ad.add j) = some v) (hc : ∀ j, j < cs.length → (w.cell? ⟨b, off + j, none⟩).isSome = true) (hf : ∀ j, j < cs.length → w.frozen? ⟨b, off + j, none⟩ = false) (h1 : ∀ v ∈ cs, v.oneCell' = true)
    (h : K (a.put o.dst (goInt (Nat.min sLen dLen))) (putCells w b off cs)) : if Region.wanted o (yielded ops a.tmps) = true then Oper.wp Tryd.prog o a w K Q else E := by
  have hw : Region.wanted o (yielded ops a.tmps) = true := by simp [Region.wanted, hgd]
  rw [if_pos hw]
  have hrun := run_copy5 w o.type b off dLen dCap ad sLen sCap cs hn hsrc hc hf h1
  unfold Oper.wp
  simp [execOp, ho, resolve, invoke, builtin, hd, hs, hrun, Result.andThen]
  exact h

/-- A row that was moved up by one from place k on, and an element laid into the gap. -/
theorem own_insert {w : World} {B g n k cap : Nat} {us : List T} {y : T} (hk : k ≤ n) (hn : us.length = n) (h : w.ownsRow B 25 5 (.slice (some ⟨g, 0, none⟩) (n + 1) cap) (n + 1) (us.flatMap T.cells ++ y.cells)) :
    (putCells (putCells w g ((k + 1) * 5) ((us.drop k).flatMap T.cells)) g (k * 5) y.cells).ownsRow B 25 5 (.slice (some ⟨g, 0, none⟩) (n + 1) cap) (n + 1) ((us.take k ++ y :: us.drop k).flatMap T.cells) := by
  have hlen : (us.flatMap T.cells ++ y.cells).length = (n + 1) * 5 := h.1
  have hd : ((us.drop k).flatMap T.cells).length = (n - k) * 5 := by rw [flat_len, List.length_drop, hn]
  generalize hX : us.flatMap T.cells ++ y.cells = X at h hlen
  have e1 : X = X.take ((k + 1) * 5) ++ X.drop ((k + 1) * 5) ++ [] := by rw [List.append_nil, List.take_append_drop]
  rw [e1] at h
  have h1 := own_mid (us := (us.drop k).flatMap T.cells) h (by rw [hd, List.length_drop, hlen]; omega)
  have hl1 : (X.take ((k + 1) * 5)).length = (k + 1) * 5 := by rw [List.length_take, hlen]; omega
  rw [hl1, List.append_nil] at h1
  have e2 : X.take ((k + 1) * 5) = X.take (k * 5) ++ (X.drop (k * 5)).take 5 := by rw [show (k + 1) * 5 = k * 5 + 5 by omega, List.take_add]
  rw [e2] at h1
  have h2 := own_mid (us := y.cells) h1 (by rw [cells_len, List.length_take, List.length_drop, hlen]; omega)
  have hl2 : (X.take (k * 5)).length = k * 5 := by rw [List.length_take, hlen]; omega
  rw [hl2] at h2
  have e3 : X.take (k * 5) = (us.take k).flatMap T.cells := by
    rw [← hX]
    conv => lhs; rw [← List.take_append_drop k us, List.flatMap_append, List.append_assoc]
    rw [List.take_left' (by rw [flat_len, List.length_take, hn]; omega)]
  rw [e3] at h2
  rw [List.flatMap_append, List.flatMap_cons, ← List.append_assoc]
  exact h2
/-- What stands there ahead of that. -/
theorem insert_src {w : World} {B g n k cap : Nat} {us : List T} {y : T} (hk : k ≤ n) (hn : us.length = n) (h : w.ownsRow B 25 5 (.slice (some ⟨g, 0, none⟩) (n + 1) cap) (n + 1) (us.flatMap T.cells ++ y.cells)) :
    ∀ j v, ((us.drop k).flatMap T.cells)[j]? = some v → w.cell? ((⟨g, k * 5, none⟩ : Addr).add j) = some v := by
  intro j v hj
  have hd : ((us.drop k).flatMap T.cells).length = (n - k) * 5 := by rw [flat_len, List.length_drop, hn]
  have hjl := lt_of_get hj
  rw [hd] at hjl
  rw [show (⟨g, k * 5, none⟩ : Addr).add j = ⟨g, k * 5 + j, none⟩ by unfold Addr.add; split <;> simp_all]
  rw [h.cellAt (k * 5 + j) (by omega)]
  conv => lhs; rw [← List.take_append_drop k us, List.flatMap_append, List.append_assoc]
  have hl : ((us.take k).flatMap T.cells).length = k * 5 := by rw [flat_len, List.length_take, hn]; omega
  rw [List.getElem?_append_right (by omega), hl, show k * 5 + j - k * 5 = j by omega, List.getElem?_append_left (by rw [hd]; omega), hj]

theorem ownL_insert {wr w1 w2 w3 : World} {B : Nat} {a : Option Addr} {c g cap n k : Nat} {us : List T} {y : T} (h : OwnL wr B a c us) (hB : B ≤ wr.heap.size) (hy : y.Own w1 wr.heap.size) (hb : Below wr.heap.size wr w1) (hn : us.length = n) (hl : okLen ((n + 1) * 80))
    (hrow : w2.ownsRow B 25 5 (.slice (some ⟨g, 0, none⟩) (n + 1) cap) (n + 1) (us.flatMap T.cells ++ y.cells)) (hg : w1.grownBy w2 (Value.slice a n c).ownBlock) (hd : (Value.slice a n c).ownBlock = some g ∨ g = w1.heap.size)
    (ho : Only [g] w2 w3) (hrow3 : w3.ownsRow B 25 5 (.slice (some ⟨g, 0, none⟩) (n + 1) cap) (n + 1) ((us.take k ++ y :: us.drop k).flatMap T.cells)) : OwnL w3 B (some ⟨g, 0, none⟩) cap (us.take k ++ y :: us.drop k) := by
  have hw := h.owns
  have nd := h.nodup
  rw [hn] at hw nd
  have h1 : Owns w1 B (⟨25, 5, .slice a n c, n, us.flatMap T.cells⟩ :: (us.flatMap T.rows ++ y.rows)) := by
    rw [← List.cons_append]
    exact (hw.below hb).append (hy.owns.base hB)
  have n1 : (blocksOf (⟨25, 5, .slice a n c, n, us.flatMap T.cells⟩ :: (us.flatMap T.rows ++ y.rows))).Nodup := by
    rw [← List.cons_append]
    exact nodup_behind hw hy.owns (Nat.le_refl _) nd hy.nodup
  obtain ⟨h2, n2⟩ := owns_grow (g := g) h1 n1 (Below.refl _ w1) hrow hg rfl (hd.imp id (fun e => by omega))
  have e0 : blocksOf (⟨25, 5, .slice (some ⟨g, 0, none⟩) (n + 1) cap, n + 1, us.flatMap T.cells ++ y.cells⟩ :: (us.flatMap T.rows ++ y.rows)) = g :: blocksOf (us.flatMap T.rows ++ y.rows) := by simp only [blocksOf, List.filterMap_cons, Value.ownBlock]
  rw [e0] at n2
  have h3 : Owns w3 B (us.flatMap T.rows ++ y.rows) := h2.tail.only ho (fun b hb' hc => by simp at hc; subst hc; exact (List.nodup_cons.1 n2).1 hb')
  have hp : ((us.take k ++ y :: us.drop k).flatMap T.rows).Perm (us.flatMap T.rows ++ y.rows) := by
    rw [List.flatMap_append, List.flatMap_cons]
    conv => rhs; rw [← List.take_append_drop k us, List.flatMap_append, List.append_assoc]
    exact List.Perm.append_left _ List.perm_append_comm
  have hlen : (us.take k ++ y :: us.drop k).length = n + 1 := by rw [List.length_append, List.length_cons, List.length_take, List.length_drop, hn]; omega
  have hcap : n + 1 ≤ cap := by
    obtain ⟨_, h2⟩ := hrow
    rcases h2 with ⟨hv, _⟩ | ⟨g', cap', cur, hv, hb, hg, hkc, _⟩
    · cases hv
    · injection hv with _ _ e3; omega
  refine ⟨by rw [hlen]; exact ⟨hcap, cap_of hrow⟩, by rw [hlen]; exact hl, by simp, fun t ht => ?_, fun r hr => ?_, ?_⟩
  · rcases List.mem_append.1 ht with ht | ht
    · exact h.ok t (List.mem_of_mem_take ht)
    · rcases List.mem_cons.1 ht with rfl | ht
      · exact hy.ok
      · exact h.ok t (List.mem_of_mem_drop ht)
  · rcases List.mem_cons.1 hr with rfl | hr
    · rw [hlen]; exact hrow3
    · exact h3 r (hp.mem_iff.1 hr)
  · unfold blocksOf
    rw [List.filterMap_cons]
    simp only [Value.ownBlock]
    exact List.nodup_cons.2 ⟨fun hc => (List.nodup_cons.1 n2).1 ((hp.filterMap _).mem_iff.1 hc), (hp.filterMap _).nodup_iff.2 (List.nodup_cons.1 n2).2⟩

theorem ins_len {us : List T} {i k : Nat} (hk : k ≤ i) (hn : us.length = i) : ((us.drop k).flatMap T.cells).length = Nat.min (i + 1 - k) (i - k) * 5 := by
  rw [flat_len, List.length_drop, hn]
  have : Nat.min (i + 1 - k) (i - k) = i - k := by
    show min (i + 1 - k) (i - k) = i - k
    omega
  rw [this]
theorem ins_room {w : World} {B g i k cap off : Nat} {us : List T} {xs : List Value} (hk : k ≤ i) (hn : us.length = i) (h : w.ownsRow B 25 5 (.slice (some ⟨g, 0, none⟩) (i + 1) cap) (i + 1) xs) (hc : i + 1 ≤ cap) (hoff : off = (k + 1) * 5 ∨ k = i) :
    ∀ j, j < ((us.drop k).flatMap T.cells).length → (w.cell? ⟨g, off + j, none⟩).isSome = true ∧ w.frozen? ⟨g, off + j, none⟩ = false := by
  intro j hj
  rw [flat_len, List.length_drop, hn] at hj
  have ho : off = (k + 1) * 5 := hoff.elim id (fun e => by omega)
  subst ho
  obtain ⟨⟨v, hv⟩, hf⟩ := own_room h (j := (k + 1) * 5 + j) (by omega)
  exact ⟨by rw [hv]; rfl, hf⟩
/-- Where nothing is moved, it does not matter where to. -/
theorem ins_off {w : World} {g i k off : Nat} {us : List T} (hn : us.length = i) (hoff : off = (k + 1) * 5 ∨ k = i) : putCells w g off ((us.drop k).flatMap T.cells) = putCells w g ((k + 1) * 5) ((us.drop k).flatMap T.cells) := by
  rcases hoff with rfl | h
  · rfl
  · rw [List.drop_eq_nil_of_le (by omega)]; rfl
theorem own_shift {w : World} {B g n k cap : Nat} {us : List T} {xs : List Value} (hk : k ≤ n) (hn : us.length = n) (h : w.ownsRow B 25 5 (.slice (some ⟨g, 0, none⟩) (n + 1) cap) (n + 1) xs) :
    ∃ ys, (putCells w g ((k + 1) * 5) ((us.drop k).flatMap T.cells)).ownsRow B 25 5 (.slice (some ⟨g, 0, none⟩) (n + 1) cap) (n + 1) ys := by
  have hlen : xs.length = (n + 1) * 5 := h.1
  have hd : ((us.drop k).flatMap T.cells).length = (n - k) * 5 := by rw [flat_len, List.length_drop, hn]
  have e1 : xs = xs.take ((k + 1) * 5) ++ xs.drop ((k + 1) * 5) ++ [] := by rw [List.append_nil, List.take_append_drop]
  rw [e1] at h
  have h1 := own_mid (us := (us.drop k).flatMap T.cells) h (by rw [hd, List.length_drop, hlen]; omega)
  have hl1 : (xs.take ((k + 1) * 5)).length = (k + 1) * 5 := by rw [List.length_take, hlen]; omega
  rw [hl1] at h1
  exact ⟨_, h1⟩
theorem only_drew_put {w : World} {g o : Nat} {vs : List Value} : Only [g] w (putCells w.drew g o vs) := by
  have h := put_only vs g o w.drew
  exact ⟨h.os, h.tape, h.output, h.size, h.block⟩
end Go.Proofs.YtlmlehjfockkpaaDoor
