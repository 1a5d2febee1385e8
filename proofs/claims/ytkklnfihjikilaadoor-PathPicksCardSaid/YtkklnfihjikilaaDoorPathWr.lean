/- The contract of withRoom: no statement is proved here. -/
import Derived.Test.YtkklnfihjikilaaDoorPathRoom
import Derived.Test.YtkklnfihjikilaaDoorPathV
namespace Go.Proofs.YtkklnfihjikilaaDoor
open Go.RowKit
set_option maxRecDepth 100000

theorem putD_setD (p : ByteArray) (z : V) : ∀ (d : List (ByteArray × V)) (m j : Nat), idxD d p m = ((m + j : Nat) : Int) → putD d p z = setD d j z := by
  intro d
  induction d with
  | nil => intro m j h; simp [idxD] at h; omega
  | cons f r ih =>
    obtain ⟨f, x⟩ := f
    intro m j h
    rw [idxD] at h
    rw [putD]
    split at h
    · rename_i hf
      obtain rfl : j = 0 := by omega
      rw [if_pos hf]
      rfl
    · rename_i hf
      rw [if_neg hf]
      rcases idxD_find r p (m + 1) with ⟨h1, -⟩ | ⟨i, y, h1, h2, -⟩
      · omega
      · obtain rfl : j = i + 1 := by omega
        rw [ih (m + 1) i (by omega)]
        unfold setD
        rw [List.getElem?_cons_succ]
        cases r[i]? <;> rfl
theorem putD_new (p : ByteArray) (z b : V) : ∀ (d : List (ByteArray × V)), findD d p = none → putD d p z = setD (d ++ [(p, b)]) d.length z := by
  intro d h
  have h1 : putD d p z = d ++ [(p, z)] := by
    induction d with
    | nil => rfl
    | cons f r ih =>
      obtain ⟨f, x⟩ := f
      rw [findD] at h
      split at h
      · cases h
      · rename_i hf
        rw [putD, if_neg hf, ih h]
        rfl
  rw [h1]
  unfold setD
  simp
/-- What a child's answer makes of its parent's. -/
def upV (inner : Int × V) (v : V) (j : Nat) : Int × V := if inner.1 = 0 then (0, replV v j inner.2) else (inner.1, zeroV)
theorem room_stand {t y : T} {p : ByteArray} {j : Nat} (h1 : standV t.val p = (j : Int)) (h2 : childV t.val p = some y.val) (h3 : kidT t j = some y) (r : List ByteArray) (x : V) : setV t.val (p :: r) x = upV (setV y.val r x) t.val j := by
  obtain ⟨k, n, s, la, lc, l, da, dc, d⟩ := t
  rw [T.val_mk] at h1 h2 ⊢
  rw [standV] at h1
  rw [childV] at h2
  rw [kidT] at h3
  rw [setV, upV, replV]
  by_cases h5 : k = 5
  · rw [if_pos h5] at h1 h2 ⊢
    rw [h2, Option.getD_some, if_pos h5, putD_setD p _ _ 0 j (by rw [h1]; simp)]
  · rw [if_neg h5] at h1 h2 h3 ⊢
    rw [if_neg h5]
    by_cases h6 : k = 6
    · rw [if_pos h6] at h1 h2 ⊢
      by_cases h7 : placeN p < ((l.map T.val).length : Int)
      · rw [if_pos h7] at h1
        rw [if_pos (by omega)] at h2
        rw [if_neg (by omega), if_pos h7, h2, Option.getD_some, h1, Int.toNat_natCast]
      · rw [if_neg h7] at h1
        omega
    · rw [if_neg h6] at h1
      omega
theorem room_doc {n : Int} {s : ByteArray} {l : List V} {d : List (ByteArray × V)} {p : ByteArray} (h : findD d p = none) (r : List ByteArray) (x : V) : setV (.mk 5 n s l d) (p :: r) x = upV (setV bareV r x) (.mk 5 n s l (d ++ [(p, bareV)])) d.length := by
  rw [setV, if_pos rfl, h, Option.getD_none, upV, replV, if_pos rfl, putD_new p _ bareV _ h]
theorem room_pad {n : Int} {s : ByteArray} {l : List V} {d : List (ByteArray × V)} {p : ByteArray} (h : (l.length : Int) ≤ placeN p) (h1 : ¬ (100 : Int) < placeN p + 1 - l.length) (r : List ByteArray) (x : V) : setV (.mk 6 n s l d) (p :: r) x = upV (setV bareV r x) (.mk 6 n s (l ++ List.replicate ((placeN p).toNat - l.length) nullV ++ [bareV]) d) (placeN p).toNat := by
  rw [setV, if_neg (by decide), if_pos rfl, if_neg (by omega), if_neg (by omega), if_neg h1, upV, replV, if_neg (show ¬ (6 : Int) = 5 by decide)]
  have : (placeN p).toNat = (l ++ List.replicate ((placeN p).toNat - l.length) nullV).length := by simp; omega
  generalize hm : l ++ List.replicate ((placeN p).toNat - l.length) nullV = m at this ⊢
  rw [this, List.set_append_right _ _ (Nat.le_refl _), Nat.sub_self]
  rfl
theorem room_deep {k n : Int} {s : ByteArray} {l : List V} {d : List (ByteArray × V)} {p : ByteArray} (h5 : k ≠ 5) (h6 : k ≠ 6) (r : List ByteArray) (x : V) : setV (.mk k n s l d) (p :: r) x = (41, zeroV) := by
  rw [setV, if_neg h5, if_neg h6]
theorem room_neg {k n : Int} {s : ByteArray} {l : List V} {d : List (ByteArray × V)} {p : ByteArray} (h5 : k ≠ 5) (hp : placeN p < 0) (r : List ByteArray) (x : V) : setV (.mk k n s l d) (p :: r) x = (41, zeroV) := by
  rw [setV, if_neg h5, if_pos hp]
  split <;> rfl
theorem room_far {n : Int} {s : ByteArray} {l : List V} {d : List (ByteArray × V)} {p : ByteArray} (_h : (l.length : Int) ≤ placeN p) (h1 : (100 : Int) < placeN p + 1 - l.length) (r : List ByteArray) (x : V) : setV (.mk 6 n s l d) (p :: r) x = (42, zeroV) := by
  rw [setV, if_neg (by decide), if_pos rfl, if_neg (by omega), if_neg (by omega), if_pos h1]

def RoomTo (t : T) (p : ByteArray) (w : World) (e : Ending) (w' : World) : Prop :=
  Below w.heap.size w w' ∧
  ((∃ er : Int, er ≠ 0 ∧ e = .returned (.tuple #[zeroT.arg, .int .i64 0, .int .i64 er]) ∧ ∀ r x, setV t.val (p :: r) x = (er, zeroV)) ∨
  (∃ (t' : T) (j : Nat) (y : T), e = .returned (.tuple #[t'.arg, .int .i64 j, .int .i64 0]) ∧ kidT t' j = some y ∧ (y = bareT ∨ kidT t j = some y) ∧ t'.In w' ∧ t'.ok ∧ (∀ r x, setV t.val (p :: r) x = upV (setV y.val r x) t'.val j) ∧ ∀ B0 B1 : Nat, B1 ≤ w.heap.size → t.Out B0 B1 → t'.Out B0 B1))

theorem none_in (w : World) (k : Int) : T.In w (.mk k 0 ⟨#[]⟩ none 0 [] none 0 []) := T.In.of_parts (fun p hp => by simp [T.placesL] at hp) (fun p hp => by simp [T.placesD] at hp)
theorem bare_ok : bareT.ok := by simp [bareT, T.ok, T.okL, T.okD, okInt, okLen, okFar, ByteArray.size]
theorem null_ok : nullT.ok := by simp [nullT, T.ok, T.okL, T.okD, okInt, okLen, okFar, ByteArray.size]
theorem room_pad_end {w F : World} {nt : Int} {st : ByteArray} {lat : Option Addr} {lct : Nat} {lt : List T} {dat : Option Addr} {dct : Nat} {dt : List (ByteArray × T)} {p : ByteArray} {g cap B : Nat} {ll : List T} (hll : ll = lt ++ List.replicate ((placeN p).toNat - lt.length) nullT ++ [bareT])
    (hin : T.In w (.mk 6 nt st lat lct lt dat dct dt)) (ok : T.ok (.mk 6 nt st lat lct lt dat dct dt)) (hB : Below w.heap.size w F) (hwB : w.heap.size ≤ B) (hrow : F.ownsRow B 31 5 (.slice (some ⟨g, 0, none⟩) ll.length cap) ll.length (ll.flatMap T.cells)) (h : (lt.length : Int) ≤ placeN p) (h1 : ¬ (100 : Int) < placeN p + 1 - lt.length) :
    RoomTo (.mk 6 nt st lat lct lt dat dct dt) p w (.returned (.tuple #[.agg #[.int .i64 6, .int .i64 nt, .string st, .slice (some ⟨g, 0, none⟩) ll.length cap, .slice dat dt.length dct], .int .i64 (placeN p), .int .i64 0])) F := by
  have hbd := placeN_bound p
  have hlen : ll.length = (placeN p).toNat + 1 := by
    rw [hll]
    simp
    omega
  refine ⟨hB, .inr ⟨.mk 6 nt st (some ⟨g, 0, none⟩) cap ll dat dct dt, (placeN p).toNat, bareT, ?_, ?_, .inl rfl, ?_, ?_, fun r x => ?_, fun B0 B1 h1 ho => T.Out.of_parts (outL_new (by have := (hrow.lt g rfl).1; omega) fun z hz => ?_) ho.parts.2⟩⟩
  · simp only [T.arg, T.cells]
    rw [Int.toNat_of_nonneg (by omega)]
  · rw [kidT, if_neg (by decide), hll, List.getElem?_append_right (by simp; omega)]
    have : (placeN p).toNat - (lt ++ List.replicate ((placeN p).toNat - lt.length) nullT).length = 0 := by simp; omega
    rw [this]
    rfl
  · refine T.In.of_parts (rep_inL hrow fun z hz => ?_) (hin.parts.2.then_ hB)
    rw [hll] at hz
    rcases List.mem_append.1 hz with hz | hz
    · rcases List.mem_append.1 hz with hz | hz
      · obtain ⟨i, hi⟩ := List.mem_iff_getElem?.1 hz
        exact (inL_kid hin.parts.1 hi).then_ hB
      · rw [(List.mem_replicate.1 hz).2]
        exact none_in _ _
    · rw [List.mem_singleton.1 hz]
      exact none_in _ _
  · have hc := cap_of hrow
    have hr := own_fits hrow
    simp only [T.ok, T.okL_iff, T.okD_iff] at ok ⊢
    obtain ⟨q1, q2, q3, q4, q5, q6, q7, q8, q9, q10, q11⟩ := ok
    refine ⟨q1, q2, q3, ⟨hr, hc⟩, by unfold okLen; omega, by simp, q7, q8, q9, fun z hz => ?_, q11⟩
    rw [hll] at hz
    rcases List.mem_append.1 hz with hz | hz
    · rcases List.mem_append.1 hz with hz | hz
      · exact q10 z hz
      · rw [(List.mem_replicate.1 hz).2]
        exact null_ok
    · rw [List.mem_singleton.1 hz]
      exact bare_ok
  · have := room_pad (n := nt) (s := st) (l := lt.map T.val) (d := dt.map fun f => (f.1, f.2.val)) (p := p) (by rw [List.length_map]; exact h) (by rw [List.length_map]; exact h1) r x
    rw [T.val_mk, T.val_mk, this, hll]
    simp only [List.map_append, List.map_replicate, List.map_cons, List.map_nil, List.length_map]
    rfl
  · rw [hll] at hz
    rcases List.mem_append.1 hz with hz | hz
    · rcases List.mem_append.1 hz with hz | hz
      · obtain ⟨i, hi⟩ := List.mem_iff_getElem?.1 hz
        exact ho.parts.1.kid hi
      · rw [(List.mem_replicate.1 hz).2]
        exact none_out _ _ _
    · rw [List.mem_singleton.1 hz]
      exact none_out _ _ _
theorem room_doc_end {w F : World} {nt : Int} {st : ByteArray} {lat : Option Addr} {lct : Nat} {lt : List T} {dat : Option Addr} {dct : Nat} {dt : List (ByteArray × T)} {p : ByteArray} {g cap B : Nat} (hp : okLen p.size)
    (hin : T.In w (.mk 5 nt st lat lct lt dat dct dt)) (ok : T.ok (.mk 5 nt st lat lct lt dat dct dt)) (hB : Below w.heap.size w F) (hwB : w.heap.size ≤ B) (hrow : F.ownsRow B 52 6 (.slice (some ⟨g, 0, none⟩) (dt.length + 1) cap) (dt.length + 1) (dt.flatMap fcells ++ fcells (p, bareT))) (h : childV (T.val (.mk 5 nt st lat lct lt dat dct dt)) p = none) (hroom : (dt.length + 1) * 96 ≤ 140737488355328) :
    RoomTo (.mk 5 nt st lat lct lt dat dct dt) p w (.returned (.tuple #[.agg #[.int .i64 5, .int .i64 nt, .string st, .slice lat lt.length lct, .slice (some ⟨g, 0, none⟩) (dt.length + 1) cap], .int .i64 dt.length, .int .i64 0])) F := by
  rw [T.val_mk, childV, if_pos rfl] at h
  have hrow' : F.ownsRow B 52 6 (.slice (some ⟨g, 0, none⟩) (dt ++ [(p, bareT)]).length cap) (dt ++ [(p, bareT)]).length ((dt ++ [(p, bareT)]).flatMap fcells) := by
    simpa [List.flatMap_append] using hrow
  refine ⟨hB, .inr ⟨.mk 5 nt st lat lct lt (some ⟨g, 0, none⟩) cap (dt ++ [(p, bareT)]), dt.length, bareT, ?_, ?_, .inl rfl, ?_, ?_, fun r x => ?_, fun B0 B1 h1 ho => T.Out.of_parts ho.parts.1 (outD_new (by have := (hrow.lt g rfl).1; omega) fun z hz => ?_)⟩⟩
  · simp only [T.arg, T.cells, List.length_append, List.length_singleton]
  · rw [kidT, if_pos rfl]
    simp
  · refine T.In.of_parts (hin.parts.1.then_ hB) (rep_inD hrow' fun z hz => ?_)
    rcases List.mem_append.1 hz with hz | hz
    · obtain ⟨i, hi⟩ := List.mem_iff_getElem?.1 hz
      exact (inD_kid hin.parts.2 hi).then_ hB
    · rw [List.mem_singleton.1 hz]
      exact none_in _ _
  · have hc := cap_of hrow
    have hr := own_fits hrow
    simp only [T.ok, T.okL_iff, T.okD_iff] at ok ⊢
    obtain ⟨q1, q2, q3, q4, q5, q6, q7, q8, q9, q10, q11⟩ := ok
    refine ⟨q1, q2, q3, q4, q5, q6, ⟨by rw [List.length_append]; exact hr, hc⟩, by rw [List.length_append]; unfold okFar; exact hroom, by simp, q10, fun z hz => ?_⟩
    rcases List.mem_append.1 hz with hz | hz
    · exact q11 z hz
    · rw [List.mem_singleton.1 hz]
      exact ⟨hp, bare_ok⟩
  · rw [T.val_mk, T.val_mk, room_doc h]
    simp only [List.map_append, List.map_cons, List.map_nil, List.length_map]
    rfl
  · rcases List.mem_append.1 hz with hz | hz
    · obtain ⟨i, hi⟩ := List.mem_iff_getElem?.1 hz
      exact ho.parts.2.kid hi
    · rw [List.mem_singleton.1 hz]
      exact none_out _ _ _

def docLen : T → Nat
  | .mk _ _ _ _ _ _ _ _ d => d.length
theorem open_clipD {w : World} {dat : Option Addr} {dct : Nat} {dt : List (ByteArray × T)} (B : Nat) (hin : InD w dat dt) (hn : dat = none → dct = 0) (hl : dt.length ≤ dct) : Open' w B 52 6 (.slice dat dt.length dt.length) dt.length (dt.flatMap fcells) := by
  cases dat with
  | none =>
    have h0 : dt = [] := List.eq_nil_of_length_eq_zero (by have := hn rfl; omega)
    subst h0
    exact .inl (World.ownsRow_nil _ _ _ _)
  | some a0 =>
    refine .inr ⟨a0, rfl, flat_lenD dt, fun j u hju => ?_⟩
    by_cases hz : dt = []
    · subst hz; simp at hju
    · obtain ⟨x, hx⟩ : ∃ x, dt[0]? = some x := ⟨_, List.getElem?_eq_getElem (List.length_pos_iff.2 hz)⟩
      obtain ⟨b, o, e, -, -⟩ := hin.elem hx
      injection e with e
      subst e
      exact inD_flat hin j u hju
theorem wp_append_open {P : Program} {w : World} {o : Oper} {a : Act} {K : Act → World → Prop} {Q : Exit → Act → World → Prop} (s x : Operand) (t : TypeId)
    (ho : o.op = .call { callee := .builtin .append, args := #[s, x], argTypes := #[t, t] })
    (base : Nat) (e : TypeId) (i : TypeInfo) (z : Value) (size bytes : Nat) (ht : P.underlying t = some (.slice e)) (hi : P.info? e = some i) (hz : i.zero = some z)
    (hsize : i.size = size) (hby : i.bytes = bytes) (hzs : z.cells.size = size) (hsz : 0 < size)
    (v : Value) (n : Nat) (xs : List Value) (hs : a.eval s = v) (hown : Open' w base e size v n xs)
    (ad : Addr) (m c : Nat) (news : List Value) (hx : a.eval x = .slice (some ad) m c) (hl : news.length = m * size) (hnews : ∀ j u, news[j]? = some u → w.cell? (ad.add j) = some u) (h1 : ∀ u ∈ news, u.oneCell' = true)
    (hm : 0 < m) (h63 : n + m ≤ maxLen) (hbytes : (n + m) * bytes ≤ 140737488355328) (hbase : base ≤ w.heap.size)
    (h : ∀ g cap w' r, w'.ownsRow base e size (.slice (some ⟨g, 0, none⟩) (n + m) cap) (n + m) (xs ++ news) → w.grownBy w' r → (∀ k, r = some k → base ≤ k) → K (a.put o.dst (.slice (some ⟨g, 0, none⟩) (n + m) cap)) w') : Oper.wp P o a w K Q := by
  rcases hown with hown | ⟨b, rfl, hlo, holds⟩
  · exact wp_append_lies w s x t ho base e i z size bytes ht hi hz hsize hby hzs hsz v n xs hs hown ad m c news hx hl hnews h1 hm h63 hbytes hbase _ rfl fun g cap w' h2 h3 _ _ => h g cap w' _ h2 h3 (fun k hk => (hown.lt k hk).1)
  · obtain ⟨v', w', hrun, h2, h3⟩ := run_append_arg_grows (P := P) w t o.type e i z size bytes ht hi hz hsize hby hzs hsz b n n xs hlo holds ad m c news hl hnews (by omega) h63 hbytes
    unfold Oper.wp
    simp [execOp, ho, resolve, invoke, builtin, hs, hx, hrun, Result.andThen]
    obtain ⟨h4, h5⟩ := h2
    rcases h5 with ⟨hv, h6⟩ | ⟨g, cap, cur, hv, hb, hr⟩
    · omega
    · subst hv
      exact h g cap w' none ⟨h4, .inr ⟨g, cap, cur, rfl, Nat.le_trans hbase hb, hr⟩⟩ h3 (fun k e => by cases e)
theorem step_append_open {P : Program} {w : World} {ops : Array Oper} {o : Oper} {a : Act} {K : Act → World → Prop} {Q : Exit → Act → World → Prop} {E : Prop} (hgd : o.guard = none) (s x : Operand) (t : TypeId)
    (ho : o.op = .call { callee := .builtin .append, args := #[s, x], argTypes := #[t, t] })
    (base : Nat) (e : TypeId) (i : TypeInfo) (z : Value) (size bytes : Nat) (ht : P.underlying t = some (.slice e)) (hi : P.info? e = some i) (hz : i.zero = some z)
    (hsize : i.size = size) (hby : i.bytes = bytes) (hzs : z.cells.size = size) (hsz : 0 < size)
    (v : Value) (n : Nat) (xs : List Value) (hs : a.eval s = v) (hown : Open' w base e size v n xs)
    (ad : Addr) (m c : Nat) (news : List Value) (hx : a.eval x = .slice (some ad) m c) (hl : news.length = m * size) (hnews : ∀ j u, news[j]? = some u → w.cell? (ad.add j) = some u) (h1 : ∀ u ∈ news, u.oneCell' = true)
    (hm : 0 < m) (h63 : n + m ≤ maxLen) (hbytes : (n + m) * bytes ≤ 140737488355328) (hbase : base ≤ w.heap.size)
    (h : ∀ g cap w' r, w'.ownsRow base e size (.slice (some ⟨g, 0, none⟩) (n + m) cap) (n + m) (xs ++ news) → w.grownBy w' r → (∀ k, r = some k → base ≤ k) → K (a.put o.dst (.slice (some ⟨g, 0, none⟩) (n + m) cap)) w') :
    if Region.wanted o (yielded ops a.tmps) = true then Oper.wp P o a w K Q else E := by
  have hw : Region.wanted o (yielded ops a.tmps) = true := by simp [Region.wanted, hgd]
  rw [if_pos hw]
  exact wp_append_open s x t ho base e i z size bytes ht hi hz hsize hby hzs hsz v n xs hs hown ad m c news hx hl hnews h1 hm h63 hbytes hbase h
theorem grown_row {w w' : World} {r : Option Nat} {k : Nat} {cs : Array Value} {t : TypeId} {f : Nat × Nat} (h : w.heap[k]? = some (.cells cs t f)) (hg : w.grownBy w' r) (hr : ∀ b, r = some b → k < b) : w'.heap[k]? = some (.cells cs t f) := by
  rw [hg.block k (Array.getElem?_eq_some_iff.1 h).1 (fun e => by have := hr k e.symm; omega)]
  exact h

theorem wr_doc_end {w U w3 : World} {nt : Int} {st : ByteArray} {lat : Option Addr} {lct : Nat} {lt : List T} {dat : Option Addr} {dct : Nat} {dt : List (ByteArray × T)} {p : ByteArray} {g cap : Nat} {r : Option Nat} {o : Obj} (hp : okLen p.size)
    (hin : T.In w (.mk 5 nt st lat lct lt dat dct dt)) (ok : T.ok (.mk 5 nt st lat lct lt dat dct dt)) (hbW : Below w.heap.size w U) (hlt : w.heap.size + 1 < U.heap.size)
    (h3 : w3.ownsRow U.heap.size 52 6 (.slice (some ⟨g, 0, none⟩) (dt.length + 1) cap) (dt.length + 1) (dt.flatMap fcells ++ fcells (p, bareT))) (hg : (U.drew.alloc o).grownBy w3 r) (hr : ∀ k, r = some k → U.heap.size ≤ k)
    (h : childV (T.val (.mk 5 nt st lat lct lt dat dct dt)) p = none) (hroom : (dt.length + 1) * 96 ≤ 140737488355328) :
    RoomTo (.mk 5 nt st lat lct lt dat dct dt) p w (.returned (.tuple #[.agg #[.int .i64 5, .int .i64 nt, .string st, .slice lat lt.length lct, .slice (some ⟨g, 0, none⟩) (dt.length + 1) cap], .int .i64 dt.length, .int .i64 0]))
      ((((((w3.setCell ⟨w.heap.size, 4, none⟩ (.slice (some ⟨g, 0, none⟩) (dt.length + 1) cap)).setCell ⟨w.heap.size + 1, 0, none⟩ (.int .i64 5)).setCell ⟨w.heap.size + 1, 1, none⟩ (.int .i64 nt)).setCell ⟨w.heap.size + 1, 2, none⟩ (.string st)).setCell ⟨w.heap.size + 1, 3, none⟩ (.slice lat lt.length lct)).setCell ⟨w.heap.size + 1, 4, none⟩ (.slice (some ⟨g, 0, none⟩) (dt.length + 1) cap)).drew := by
  have o4 : Only [w.heap.size] w3 (w3.setCell ⟨w.heap.size, 4, none⟩ (.slice (some ⟨g, 0, none⟩) (dt.length + 1) cap)) := (Only.refl _ _).setCell (p := ⟨w.heap.size, 4, none⟩) (.inl (by simp)) _
  have o5 := only_set5 (w3.setCell ⟨w.heap.size, 4, none⟩ (.slice (some ⟨g, 0, none⟩) (dt.length + 1) cap)) (w.heap.size + 1) (.int .i64 5) (.int .i64 nt) (.string st) (.slice lat lt.length lct) (.slice (some ⟨g, 0, none⟩) (dt.length + 1) cap)
  have hgl := h3.lt g rfl
  have hb3 : Below w.heap.size w w3 := (hbW.drew.alloc (by have := hbW.size; exact this) o).grown hg (by have := hbW.size; simp; omega) (fun k e => by have := hr k e; omega)
  have hb4 := hb3.setCell (p := ⟨w.heap.size, 4, none⟩) (Nat.le_refl _) (.slice (some ⟨g, 0, none⟩) (dt.length + 1) cap)
  generalize w3.setCell ⟨w.heap.size, 4, none⟩ (.slice (some ⟨g, 0, none⟩) (dt.length + 1) cap) = w4 at o4 o5 hb4 ⊢
  generalize ((((w4.setCell ⟨w.heap.size + 1, 0, none⟩ (.int .i64 5)).setCell ⟨w.heap.size + 1, 1, none⟩ (.int .i64 nt)).setCell ⟨w.heap.size + 1, 2, none⟩ (.string st)).setCell ⟨w.heap.size + 1, 3, none⟩ (.slice lat lt.length lct)).setCell ⟨w.heap.size + 1, 4, none⟩ (.slice (some ⟨g, 0, none⟩) (dt.length + 1) cap) = w5 at o5 ⊢
  have hb5 : Below w.heap.size w w5 := ((Only.of_below (S := []) hb4).then_ o5 (by simp)).below
  refine room_doc_end (B := U.heap.size) hp hin ok hb5.drew (by omega) (row_on h3 (fun b hb => ?_)) h hroom
  simp [Value.ownBlock] at hb
  subst hb
  have e1 := o4.block g hgl.2 (by simp; omega)
  have e2 := o5.block g (by have := o4.size; omega) (by simp; omega)
  exact e2.trans e1
set_option maxHeartbeats 20000000 in
theorem withRoom_doc (nt : Int) (st : ByteArray) (lat : Option Addr) (lct : Nat) (lt : List T) (dat : Option Addr) (dct : Nat) (dt : List (ByteArray × T)) (p : ByteArray) (hp : okLen p.size) (w : World) (HI : Hid (T.In w (.mk 5 nt st lat lct lt dat dct dt))) (HO : Hid (T.ok (.mk 5 nt st lat lct lt dat dct dt)))
    (H1 : Hid (standV (T.val (.mk 5 nt st lat lct lt dat dct dt)) p = -1)) (H2 : Hid (childV (T.val (.mk 5 nt st lat lct lt dat dct dt)) p = none)) (hroom : (dt.length + 1) * 96 ≤ 140737488355328) :
    Calls Tryd.prog 50 #[.agg #[.int .i64 5, .int .i64 nt, .string st, .slice lat lt.length lct, .slice dat dt.length dct], .string p] w (RoomTo (.mk 5 nt st lat lct lt dat dct dt) p w) := by
  have HS := stand_any (.mk 5 nt st lat lct lt dat dct dt) HO.out p
  rw [H1.out] at HS
  replace HS := Lib.hid HS
  have Q0 := Lib.hid (row_then (heap_alloc_new w (.cells #[.int .i64 5, .int .i64 nt, .string st, .slice lat lt.length lct, .slice dat dt.length dct] 31)) (below1 _ zeroObj))
  have Q1 := Lib.hid (by have := heap_alloc_new (w.alloc (.cells #[.int .i64 5, .int .i64 nt, .string st, .slice lat lt.length lct, .slice dat dt.length dct] 31)) zeroObj; rw [World.size_alloc] at this; exact this)
  unfold zeroObj at Q0 Q1
  go_enter Tryd.func50, Tryd.ntmps50
  go_wp2_with (go_at_call 42; refine (HS.out _ (HI.out.then_ (below2 _ _ _))).mono ?_; rintro e w1 ⟨rfl, hb1⟩; have r0 := row_then Q0.out hb1; have r1 := row_then Q1.out hb1; have x0 := row_cells r0; have y0 := row_free r0; have x1 := row_cells r1; have y1 := row_free r1)
  have rb := heap_alloc_new w1 (.cells #[.int .i64 5, .int .i64 0, .string ⟨#[]⟩, .slice none 0 0, .slice none 0 0] 31)
  have r0u := row_then r0 (below1 w1 (.cells #[.int .i64 5, .int .i64 0, .string ⟨#[]⟩, .slice none 0 0, .slice none 0 0] 31))
  have r1u := row_then r1 (below1 w1 (.cells #[.int .i64 5, .int .i64 0, .string ⟨#[]⟩, .slice none 0 0, .slice none 0 0] 31))
  have hbU := below1 w1 (.cells #[.int .i64 5, .int .i64 0, .string ⟨#[]⟩, .slice none 0 0, .slice none 0 0] 31)
  have hsU := Lib.hid (show (w1.alloc (.cells #[.int .i64 5, .int .i64 0, .string ⟨#[]⟩, .slice none 0 0, .slice none 0 0] 31)).heap.size = w1.heap.size + 1 by simp)
  generalize w1.alloc (.cells #[.int .i64 5, .int .i64 0, .string ⟨#[]⟩, .slice none 0 0, .slice none 0 0] 31) = U at rb r0u r1u hbU hsU ⊢
  have xb := row_cells rb
  have x0u := row_cells r0u
  have y0u := row_free r0u
  have x1u := row_cells r1u
  clear x0 y0 x1 y1 r0 r1
  obtain ⟨i0, hi0, hz0, hz1, hz2⟩ := info_parts info_field
  have I0 := Lib.hid (And.intro hi0 (And.intro hz0 (And.intro hz1 hz2)))
  clear hi0 hz0 hz1 hz2
  have hbW := Lib.hid (below_then (below_then (below2 w (.cells #[.int .i64 5, .int .i64 nt, .string st, .slice lat lt.length lct, .slice dat dt.length dct] 31) (.cells #[.int .i64 0, .int .i64 0, .string ⟨#[]⟩, .slice none 0 0, .slice none 0 0] 31)) hb1) hbU)
  have hn1 : dat = none → dct = 0 := by have := HO.out; simp only [T.ok] at this; exact this.2.2.2.2.2.2.2.2.1
  have hn2 : dt.length ≤ dct ∧ dct ≤ 9223372036854775807 := by have := HO.out; simp only [T.ok] at this; exact this.2.2.2.2.2.2.1
  have HRO := Lib.hid (show (dt.length + 1) * 96 ≤ 140737488355328 from hroom)
  have HCL := Lib.hid (fun w => clipf_any dat dt.length dct w hn2.1 hn2.2 hn1)
  have HOP := Lib.hid (fun w' (h : Below w.heap.size w w') => (open_clipD U.heap.size HI.out.parts.2 hn1 hn2.1).then_ h)
  have hs1 := hb1.size
  simp at hs1
  have hlt0 : w.heap.size < U.heap.size := by have := hsU.out; omega
  have hlt1 : w.heap.size + 1 < U.heap.size := by have := hsU.out; omega
  have hlt2 : w1.heap.size < U.heap.size := by have := hsU.out; omega
  clear hn1 hn2 hroom
  go_region_law (first | (refine step_enter (o := { dst := some 23, op := _, type := _, pos := _, after := _, guard := none }) rfl 72 #[.slice dat dt.length dct] (by go_simp) ((HCL.out _).mono ?_); rintro e w2 ⟨rfl, rfl⟩; refine ⟨_, rfl, ?_⟩) | (refine step_append_open (o := { dst := some 28, op := _, type := _, pos := _, after := _, guard := none }) rfl (.tmp 23) (.tmp 27) 29 rfl U.heap.size 52 i0 _ 6 96 Tryd.underlying29 I0.out.1 I0.out.2.1 I0.out.2.2.1 I0.out.2.2.2 rfl (by decide) (.slice dat dt.length dt.length) dt.length _ rfl (HOP.out _ (hbW.out.drew.alloc (by have := hbW.out.size; exact this) (.cells #[.string p, .int .i64 5, .int .i64 0, .string ⟨#[]⟩, .slice none 0 0, .slice none 0 0] 52))) ⟨U.heap.size, 0, none⟩ 1 1 (fcells (p, bareT)) rfl rfl (World.news_of_block (heap_alloc_new _ _)) (by simp [fcells, bareT, T.cells, Value.oneCell']) (by decide) (by have := HRO.out; unfold maxLen; omega) HRO.out (by simp) ?_; intro g cap w3 r hown hgr hr; have r0v := grown_row (row_then (w' := U.drew.alloc (.cells #[.string p, .int .i64 5, .int .i64 0, .string ⟨#[]⟩, .slice none 0 0, .slice none 0 0] 52)) r0u ((Below.refl _ U).drew.alloc (Nat.le_refl _) _)) hgr (fun b e => by have := hr b e; have := hsU.out; omega); have r1v := grown_row (row_then (w' := U.drew.alloc (.cells #[.string p, .int .i64 5, .int .i64 0, .string ⟨#[]⟩, .slice none 0 0, .slice none 0 0] 52)) r1u ((Below.refl _ U).drew.alloc (Nat.le_refl _) _)) hgr (fun b e => by have := hr b e; have := hsU.out; omega); have x0v := row_cells r0v; have y0v := row_free r0v; have x1v := row_cells r1v; have y1v := row_free r1v; have HW3 := Lib.hid hown; have HG3 := Lib.hid hgr; have HR3 := Lib.hid hr; clear hown hgr hr r0v r1v))
  all_goals go_wp2_with fail
  all_goals go_region
  all_goals
    go_wp2_with fail
    have ew : wrap64 (dt.length : Int) = dt.length := by have := HRO.out; unfold wrap64; omega
    refine bodyPost_ret (v := .tuple #[.agg #[.int .i64 5, .int .i64 nt, .string st, .slice lat lt.length lct, .slice (some ⟨g, 0, none⟩) (dt.length + 1) cap], .int .i64 dt.length, .int .i64 0]) (by simp [results, Tryd.results50, go_sem, x1v, ew]) rfl ?_
    exact wr_doc_end hp HI.out HO.out hbW.out hlt1 HW3.out HG3.out HR3.out H2.out HRO.out
set_option maxHeartbeats 20000000 in
theorem withRoom_any (t : T) (hroom : (docLen t + 1) * 96 ≤ 140737488355328) (ok : t.ok) (p : ByteArray) (hp : okLen p.size) (w : World) (hin : t.In w) : Calls Tryd.prog 50 #[t.arg, .string p] w (RoomTo t p w) := by
  have HI := Lib.hid hin
  have HO := Lib.hid ok
  have hbd := placeN_bound p
  rcases stand_child t p with ⟨h1, h2⟩ | ⟨j, y, h1, h2, h3⟩
  · have HS := stand_any t ok p
    rw [h1] at HS
    replace HS := Lib.hid HS
    obtain ⟨kt, nt, st, lat, lct, lt, dat, dct, dt⟩ := t
    have H2 := Lib.hid h2
    have H1 := Lib.hid h1
    clear h1 h2 hin ok
    show Calls _ _ #[.agg #[.int .i64 kt, .int .i64 nt, .string st, .slice lat lt.length lct, .slice dat dt.length dct], .string p] _ _
    have Q0 := Lib.hid (row_then (heap_alloc_new w (.cells #[.int .i64 kt, .int .i64 nt, .string st, .slice lat lt.length lct, .slice dat dt.length dct] 31)) (below1 _ zeroObj))
    have Q1 := Lib.hid (by have := heap_alloc_new (w.alloc (.cells #[.int .i64 kt, .int .i64 nt, .string st, .slice lat lt.length lct, .slice dat dt.length dct] 31)) zeroObj; rw [World.size_alloc] at this; exact this)
    unfold zeroObj at Q0 Q1
    by_cases k5 : kt = 5
    · subst k5
      exact withRoom_doc nt st lat lct lt dat dct dt p hp w HI HO H1 H2 hroom
    · have k5b : (kt == 5) = false := by simpa using k5
      by_cases k6 : kt = 6
      · subst k6
        have hpl : placeN p < 0 ∨ (lt.length : Int) ≤ placeN p := by
          have := H1.out
          rw [T.val_mk, standV, if_neg (by decide), if_pos rfl, List.length_map] at this
          split at this <;> omega
        have HP := Lib.hid (fun w h => padded_any _ (placeN p) HO.out w h 6 nt st lat lct lt dat dct dt rfl (by omega) hpl)
        by_cases hneg : placeN p < 0
        · have HPa := Lib.hid (fun w h => (HP.out w h).mono (fun e w' hh => (show Below w.heap.size w w' ∧ e = .returned (.tuple #[.agg #[.int .i64 0, .int .i64 0, .string ⟨#[]⟩, .slice none 0 0, .slice none 0 0], .int .i64 0, .int .i64 41]) from ⟨hh.1, by have := hh.2; rwa [if_pos hneg] at this⟩)))
          go_enter Tryd.func50, Tryd.ntmps50
          go_wp2_with (go_at_call 42; refine (HS.out _ (HI.out.then_ (below2 _ _ _))).mono ?_; rintro e w1 ⟨rfl, hb1⟩; have r0 := row_then Q0.out hb1; have r1 := row_then Q1.out hb1; have x0 := row_cells r0; have y0 := row_free r0; have x1 := row_cells r1; have y1 := row_free r1)
          go_region_law (first | (refine step_enter (o := { dst := some 39, op := _, type := _, pos := _, after := _, guard := none }) rfl 62 #[.string p] (by go_simp) ((place_any_ p _).mono ?_); rintro e w2 ⟨rfl, rfl⟩; refine ⟨_, rfl, ?_⟩) | (refine step_enter (o := { dst := some 40, op := _, type := _, pos := _, after := _, guard := none }) rfl 73 #[.agg #[.int .i64 6, .int .i64 nt, .string st, .slice lat lt.length lct, .slice dat dt.length dct], .int .i64 (placeN p)] (by go_simp) ((HPa.out _ (HI.out.then_ (below_then (below2 w _ _) hb1)).drew').mono ?_); rintro e w3 ⟨hb3', rfl⟩; have hb3 : Below w1.heap.size w1 w3 := ⟨hb3'.os, hb3'.tape, hb3'.output, hb3'.size, hb3'.block⟩; have r1' := row_then r1 hb3; have x1' := row_cells r1'; have y1' := row_free r1'; refine ⟨_, rfl, ?_⟩; dsimp only [zeroT, T.arg, T.cells]))
          all_goals
            go_wp2_with fail
            refine bodyPost_ret (v := .tuple #[zeroT.arg, .int .i64 0, .int .i64 41]) (by simp [results, Tryd.results50, go_sem, x1', zeroT, T.arg, T.cells]) rfl ?_
            exact ⟨((Only.of_below (S := []) (below_then (below_then (below2 w _ _) hb1) hb3)).then_ (only_set5 w3 (w.heap.size + 1) _ _ _ _ _) (by simp)).below, .inl ⟨41, by decide, rfl, fun r x => by rw [T.val_mk]; exact room_neg (by decide) hneg r x⟩⟩
        · by_cases hfar : (100 : Int) < placeN p + 1 - lt.length
          · have HPa := Lib.hid (fun w h => (HP.out w h).mono (fun e w' hh => (show Below w.heap.size w w' ∧ e = .returned (.tuple #[.agg #[.int .i64 0, .int .i64 0, .string ⟨#[]⟩, .slice none 0 0, .slice none 0 0], .int .i64 0, .int .i64 42]) from ⟨hh.1, by have := hh.2; rwa [if_neg hneg, if_pos hfar] at this⟩)))
            go_enter Tryd.func50, Tryd.ntmps50
            go_wp2_with (go_at_call 42; refine (HS.out _ (HI.out.then_ (below2 _ _ _))).mono ?_; rintro e w1 ⟨rfl, hb1⟩; have r0 := row_then Q0.out hb1; have r1 := row_then Q1.out hb1; have x0 := row_cells r0; have y0 := row_free r0; have x1 := row_cells r1; have y1 := row_free r1)
            go_region_law (first | (refine step_enter (o := { dst := some 39, op := _, type := _, pos := _, after := _, guard := none }) rfl 62 #[.string p] (by go_simp) ((place_any_ p _).mono ?_); rintro e w2 ⟨rfl, rfl⟩; refine ⟨_, rfl, ?_⟩) | (refine step_enter (o := { dst := some 40, op := _, type := _, pos := _, after := _, guard := none }) rfl 73 #[.agg #[.int .i64 6, .int .i64 nt, .string st, .slice lat lt.length lct, .slice dat dt.length dct], .int .i64 (placeN p)] (by go_simp) ((HPa.out _ (HI.out.then_ (below_then (below2 w _ _) hb1)).drew').mono ?_); rintro e w3 ⟨hb3', rfl⟩; have hb3 : Below w1.heap.size w1 w3 := ⟨hb3'.os, hb3'.tape, hb3'.output, hb3'.size, hb3'.block⟩; have r1' := row_then r1 hb3; have x1' := row_cells r1'; have y1' := row_free r1'; refine ⟨_, rfl, ?_⟩; dsimp only [zeroT, T.arg, T.cells]))
            all_goals
              go_wp2_with fail
              refine bodyPost_ret (v := .tuple #[zeroT.arg, .int .i64 0, .int .i64 42]) (by simp [results, Tryd.results50, go_sem, x1', zeroT, T.arg, T.cells]) rfl ?_
              exact ⟨((Only.of_below (S := []) (below_then (below_then (below2 w _ _) hb1) hb3)).then_ (only_set5 w3 (w.heap.size + 1) _ _ _ _ _) (by simp)).below, .inl ⟨42, by decide, rfl, fun r x => by rw [T.val_mk]; exact room_far (by rw [List.length_map]; omega) (by rw [List.length_map]; omega) r x⟩⟩
          · generalize hll : lt ++ List.replicate ((placeN p).toNat - lt.length) nullT ++ [bareT] = ll
            have HPa := Lib.hid (fun w h => (HP.out w h).mono (fun e w' hh => (show Below w.heap.size w w' ∧ ∃ g cap, e = .returned (.tuple #[.agg #[.int .i64 6, .int .i64 nt, .string st, .slice (some ⟨g, 0, none⟩) ll.length cap, .slice dat dt.length dct], .int .i64 (placeN p), .int .i64 0]) ∧ w'.ownsRow (w.heap.size + 2) 31 5 (.slice (some ⟨g, 0, none⟩) ll.length cap) ll.length (ll.flatMap T.cells) from ⟨hh.1, by have := hh.2; rw [if_neg hneg, if_neg hfar, hll] at this; exact this⟩)))
            go_enter Tryd.func50, Tryd.ntmps50
            go_wp2_with (go_at_call 42; refine (HS.out _ (HI.out.then_ (below2 _ _ _))).mono ?_; rintro e w1 ⟨rfl, hb1⟩; have r0 := row_then Q0.out hb1; have r1 := row_then Q1.out hb1; have x0 := row_cells r0; have y0 := row_free r0; have x1 := row_cells r1; have y1 := row_free r1)
            go_region_law (first | (refine step_enter (o := { dst := some 39, op := _, type := _, pos := _, after := _, guard := none }) rfl 62 #[.string p] (by go_simp) ((place_any_ p _).mono ?_); rintro e w2 ⟨rfl, rfl⟩; refine ⟨_, rfl, ?_⟩) | (refine step_enter (o := { dst := some 40, op := _, type := _, pos := _, after := _, guard := none }) rfl 73 #[.agg #[.int .i64 6, .int .i64 nt, .string st, .slice lat lt.length lct, .slice dat dt.length dct], .int .i64 (placeN p)] (by go_simp) ((HPa.out _ (HI.out.then_ (below_then (below2 w _ _) hb1)).drew').mono ?_); rintro e w3 ⟨hb3', g, cap, rfl, hrow⟩; have hb3 : Below w1.heap.size w1 w3 := ⟨hb3'.os, hb3'.tape, hb3'.output, hb3'.size, hb3'.block⟩; have r1' := row_then r1 hb3; have x1' := row_cells r1'; have y1' := row_free r1'; have HROW := Lib.hid hrow; clear hrow; refine ⟨_, rfl, ?_⟩))
            all_goals
              go_wp2_with fail
              refine bodyPost_ret (v := .tuple #[.agg #[.int .i64 6, .int .i64 nt, .string st, .slice (some ⟨g, 0, none⟩) ll.length cap, .slice dat dt.length dct], .int .i64 (placeN p), .int .i64 0]) (by simp [results, Tryd.results50, go_sem, x1']) rfl ?_
              have o5 := only_set5 w3 (w.heap.size + 1) (.int .i64 6) (.int .i64 nt) (.string st) (.slice (some ⟨g, 0, none⟩) ll.length cap) (.slice dat dt.length dct)
              have hgl := HROW.out.lt g rfl
              have hs1 := hb1.size
              simp at hs1
              refine room_pad_end hll.symm HI.out HO.out ((Only.of_below (S := []) (below_then (below_then (below2 w _ _) hb1) hb3)).then_ o5 (by simp)).below (by simp; have : w1.drew.heap.size = w1.heap.size := rfl; omega) (row_on HROW.out (fun b hb => ?_)) (by omega) (by omega)
              simp [Value.ownBlock] at hb
              subst hb
              exact o5.block g hgl.2 (by simp; have : w1.drew.heap.size = w1.heap.size := rfl; omega)
      · have k6b : (kt == 6) = false := by simpa using k6
        go_enter Tryd.func50, Tryd.ntmps50
        go_wp2_with (go_at_call 42; refine (HS.out _ (HI.out.then_ (below2 _ _ _))).mono ?_; rintro e w1 ⟨rfl, hb1⟩; have r0 := row_then Q0.out hb1; have r1 := row_then Q1.out hb1; have x0 := row_cells r0; have y0 := row_free r0; have x1 := row_cells r1; have y1 := row_free r1)
        refine bodyPost_ret (v := .tuple #[zeroT.arg, .int .i64 0, .int .i64 41]) (by simp [results, Tryd.results50, go_sem, x1, zeroT, T.arg, T.cells]) rfl ?_
        exact ⟨((Only.of_below (S := []) (below_then (below2 w _ _) hb1)).then_ (only_set5 w1 (w.heap.size + 1) _ _ _ _ _) (by simp)).below, .inl ⟨41, by decide, rfl, fun r x => by rw [T.val_mk]; exact room_deep k5 k6 r x⟩⟩
  · have HS := stand_any t ok p
    rw [h1] at HS
    replace HS := Lib.hid HS
    have HU := Lib.hid (room_stand h1 h2 h3)
    have H3 := Lib.hid h3
    obtain ⟨kt, nt, st, lat, lct, lt, dat, dct, dt⟩ := t
    clear h1 h2 h3 hin ok
    show Calls _ _ #[.agg #[.int .i64 kt, .int .i64 nt, .string st, .slice lat lt.length lct, .slice dat dt.length dct], .string p] _ _
    have Q0 := Lib.hid (row_then (heap_alloc_new w (.cells #[.int .i64 kt, .int .i64 nt, .string st, .slice lat lt.length lct, .slice dat dt.length dct] 31)) (below1 _ zeroObj))
    have Q1 := Lib.hid (by have := heap_alloc_new (w.alloc (.cells #[.int .i64 kt, .int .i64 nt, .string st, .slice lat lt.length lct, .slice dat dt.length dct] 31)) zeroObj; rw [World.size_alloc] at this; exact this)
    unfold zeroObj at Q0 Q1
    go_enter Tryd.func50, Tryd.ntmps50
    go_wp2_with (go_at_call 42; refine (HS.out _ (HI.out.then_ (below2 _ _ _))).mono ?_; rintro e w1 ⟨rfl, hb1⟩; have r0 := row_then Q0.out hb1; have r1 := row_then Q1.out hb1; have x0 := row_cells r0; have y0 := row_free r0; have x1 := row_cells r1; have y1 := row_free r1)
    refine bodyPost_ret (v := .tuple #[.agg #[.int .i64 kt, .int .i64 nt, .string st, .slice lat lt.length lct, .slice dat dt.length dct], .int .i64 j, .int .i64 0]) (by simp [results, Tryd.results50, go_sem, x1]) rfl ?_
    have hB : Below w.heap.size w _ := ((Only.of_below (S := []) (below_then (below2 w _ _) hb1)).then_ (only_set5 w1 (w.heap.size + 1) (.int .i64 kt) (.int .i64 nt) (.string st) (.slice lat lt.length lct) (.slice dat dt.length dct)) (by simp)).below
    exact ⟨hB, .inr ⟨_, j, y, rfl, H3.out, .inr H3.out, HI.out.then_ hB, HO.out, HU.out, fun _ _ _ h => h⟩⟩
#print axioms withRoom_any
end Go.Proofs.YtkklnfihjikilaaDoor
