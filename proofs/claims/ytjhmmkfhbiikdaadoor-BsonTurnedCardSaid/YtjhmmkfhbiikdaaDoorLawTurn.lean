/- The law BsonTurned over its contracts. No statement is proved here. -/
import Derived.Test.YtjhmmkfhbiikdaaDoorLawForm
namespace Go.Proofs.YtjhmmkfhbiikdaaDoor
open Go.RowKit
set_option maxRecDepth 100000

theorem OwnB.setB {w : World} {B g n c : Nat} {l : List Int} (h : OwnB w B (.slice (some ⟨g, 0, none⟩) n c) l) (j : Nat) (x : Int) : OwnB (w.setCell ⟨g, j, none⟩ (.int .u8 x)) B (.slice (some ⟨g, 0, none⟩) n c) (l.set j x) ∧ w.grownBy (w.setCell ⟨g, j, none⟩ (.int .u8 x)) (some g) := by
  have hn : n = l.length := by
    obtain ⟨h1, h2⟩ := h
    rcases h2 with ⟨hv, _⟩ | ⟨g', cap, cur, hv, _⟩
    · cases hv
    · injection hv
  subst hn
  obtain ⟨h1, h2⟩ := World.ownsRow.stored h j (.int .u8 x)
  refine ⟨?_, h2⟩
  unfold OwnB
  rw [List.length_set, btV, List.map_set]
  exact h1
theorem OwnB.atB {w : World} {B g n c : Nat} {l : List Int} (h : OwnB w B (.slice (some ⟨g, 0, none⟩) n c) l) {j : Nat} {x : Int} (hx : l[j]? = some x) : w.cell? ⟨g, j, none⟩ = some (.int .u8 x) ∧ w.frozen? ⟨g, j, none⟩ = false := by
  have hn : n = l.length := by
    obtain ⟨h1, h2⟩ := h
    rcases h2 with ⟨hv, _⟩ | ⟨g', cap, cur, hv, _⟩
    · cases hv
    · injection hv
  subst hn
  refine ⟨?_, World.ownsRow.frozenAt h j⟩
  rw [World.ownsRow.cellAt h j (by have := lt_of_get hx; omega), btV, List.getElem?_map, hx]
  rfl
/-- What Encode answers of a document, and of what is none. -/
theorem encOf_zero {v : V} {L : List Int} (h : encOf v = (0, L)) : isDocV v ∧ rightOf v = 0 ∧ L = encV v := by
  obtain ⟨k, n, s, l, d⟩ := v
  rw [encOf] at h
  split at h
  · rename_i hk
    split at h
    · rename_i hr
      injection h with _ e
      exact ⟨hk, hr, e.symm⟩
    · injection h with e _
      contradiction
  · injection h with e _
    cases e
theorem dec_bad {bs : List Int} (hB : isB bs) {n : Nat} {c q : Int} (hn : bs.length + 2 ≤ n) (h : decF n bs = .bad c q) : c ≠ 0 := by
  unfold decF at h
  split at h
  · injection h with e _
    omega
  split at h
  · rename_i hr
    injection h with e1 e2
    subst e1
    have := read_bad hB hn hr
    omega
  · split at h
    · injection h with e _
      omega
    · cases h
theorem dec_ok {bs : List Int} (hB : isB bs) {n : Nat} {v : V} {m : Nat} (hn : bs.length + 2 ≤ n) (h : decF n bs = .ok v m) : bs = encV v := by
  unfold decF at h
  split at h
  · cases h
  split at h
  · cases h
  · rename_i hr
    split at h
    · cases h
    · rename_i hm
      injection h with e1 e2
      subst e1
      obtain ⟨f1, f2, f3, -⟩ := read_ok hB hn hr
      rw [← f2, List.take_of_length_le (by omega)]
theorem dec_enc {v : V} (hd : isDocV v) (hr : rightOf v = 0) (hf : v.fit) {n : Nat} (hn : (encV v).length + 2 ≤ n) : decF n (encV v) = .ok v (encV v).length := by
  obtain ⟨d, rfl, -, -, hmax⟩ := right_doc hd hr
  have hb := doc_back hf hr [] 0 (n := n) (by rw [List.append_nil]; omega)
  rw [List.append_nil] at hb
  unfold decF readF
  rw [if_neg (by omega), if_neg (by omega)]
  simp only [Int.toNat_zero, List.drop_zero]
  rw [hb]
  simp
/-- A byte turned to another one makes another document, or none. -/
theorem turned {v : V} (hd : isDocV v) (hr : rightOf v = 0) (hf : v.fit) {k n : Nat} {x too : Int} (hx : (encV v)[k]? = some x) (hB : isB ((encV v).set k too)) (hn : (encV v).length + 2 ≤ n) :
    (x = too → decF n ((encV v).set k too) = .ok v (encV v).length) ∧ ∀ w m, decF n ((encV v).set k too) = .ok w m → v = w → x = too := by
  obtain ⟨hk, rfl⟩ := List.getElem?_eq_some_iff.1 hx
  refine ⟨fun e => ?_, fun w m h e => ?_⟩
  · rw [← e, List.set_getElem_self]
    exact dec_enc hd hr hf hn
  · subst e
    have h2 := dec_ok hB (by rw [List.length_set]; exact hn) h
    have h3 := congrArg (·[k]?) h2
    simp [hk] at h3
    exact h3.symm
theorem kByte_isB (v : V) : 0 ≤ kByte v ∧ kByte v ≤ 255 := by
  obtain ⟨k, n, s, l, d⟩ := v
  rw [kByte, List.getD_eq_getElem?_getD]
  cases h : kindB[k.toNat]? with
  | none => simp
  | some c =>
    have hm := List.mem_of_getElem? h
    simp only [kindB, List.mem_cons, List.not_mem_nil, or_false] at hm
    simp only [Option.getD_some]
    omega
theorem isB_encV (v : V) : ∀ deep, rightV deep v = 0 → isB (encV v) := by
  induction v using V.ind with
  | h k n s l d ihl ihd =>
  intro deep h
  obtain ⟨⟨-, hf⟩, hl, hd⟩ := right_parts h
  have hL : ∀ (r : List V), (∀ x ∈ r, x ∈ l) → ∀ i, isB (encL i r) := by
    intro r
    induction r with
    | nil => intro _ i; rw [encL]; exact isB.nil
    | cons x r ih =>
      intro hx i
      rw [encL]
      have h1 := hx x (by simp)
      refine isB.append ?_ (ih (fun y hy => hx y (by simp [hy])) _)
      intro b hb
      rcases List.mem_cons.1 hb with rfl | hb
      · exact kByte_isB x
      · rcases List.mem_append.1 hb with hb | hb
        · exact isB_bsI _ b hb
        · rcases List.mem_cons.1 hb with rfl | hb
          · omega
          · exact ihl x h1 _ (hl x h1) b hb
  have hD : ∀ (r : List (ByteArray × V)), (∀ x ∈ r, x ∈ d) → isB (encD r) := by
    intro r
    induction r with
    | nil => intro _; rw [encD]; exact isB.nil
    | cons x r ih =>
      intro hx
      obtain ⟨f, x⟩ := x
      rw [encD]
      have h1 := hx (f, x) (by simp)
      refine isB.append ?_ (ih fun y hy => hx y (by simp [hy]))
      intro b hb
      rcases List.mem_cons.1 hb with rfl | hb
      · exact kByte_isB x
      · rcases List.mem_append.1 hb with hb | hb
        · exact isB_bsI _ b hb
        · rcases List.mem_cons.1 hb with rfl | hb
          · omega
          · exact ihd (f, x) h1 _ (hd (f, x) h1).2 b hb
  have h0 : isB [0] := by intro b hb; simp at hb; omega
  rw [encV]
  repeat' split
  · exact isB_leB _ _
  · exact isB.append (isB.append (isB_leB _ _) (isB_bsI _)) h0
  · exact isB.append (isB.append (isB_leB _ _) h0) (isB_bsI _)
  · exact isB_bsI _
  · rename_i h9
    subst h9
    rw [fitsV] at hf
    simp at hf
    intro b hb
    simp at hb
    omega
  · exact isB.append (isB.append (isB_leB _ _) (hD d fun x hx => hx)) h0
  · exact isB.append (isB.append (isB_leB _ _) (hL l (fun x hx => hx) 0)) h0
  · exact isB.nil
set_option maxHeartbeats 8000000 in
theorem turn_law (t : T) (at_ too : Int) (w : World) (ok : t.ok) (hin : t.In w) (ha1 : at_ ≤ 9223372036854775807) (ht0 : 0 ≤ too) (ht1 : too ≤ 255) {B : Nat} (hE : Env2 w B) (hBw : B ≤ w.heap.size) :
    Calls Tryd.prog 7 #[t.arg, .int .i64 at_, .int .u8 too] w fun e w' => e = .returned (.bool true) ∧ Below w.heap.size w w' := by
  obtain ⟨k, nn, s, la, lc, l, da, dc, d⟩ := t
  show Calls _ _ #[.agg #[.int .i64 k, .int .i64 nn, .string s, .slice la l.length lc, .slice da d.length dc], .int .i64 at_, .int .u8 too] _ _
  have HI := Lib.hid (And.intro ok (And.intro hin hE))
  have b0 := below1 w (.cells #[.int .i64 k, .int .i64 nn, .string s, .slice la l.length lc, .slice da d.length dc] 25)
  have r0 := heap_alloc_new w (.cells #[.int .i64 k, .int .i64 nn, .string s, .slice la l.length lc, .slice da d.length dc] 25)
  have H0 := Lib.hid (And.intro b0 r0)
  clear ok hin hE b0 r0
  go_enter Tryd.func7, Tryd.ntmps7
  go_wp2_with fail
  refine (awake02_any _ (HI.out.2.2.then_ H0.out.1) (Nat.le_trans hBw H0.out.1.size)).mono ?_
  rintro e w1 ⟨rfl, b1⟩
  have r1 := row_then H0.out.2 b1
  have c1 := row_cells r1
  have H1 := Lib.hid (And.intro (below_then H0.out.1 b1) r1)
  clear b1 r1 H0
  go_wp2_with fail
  refine (encode_any (.mk k nn s la lc l da dc d) HI.out.1 w1 (HI.out.2.1.then_ H1.out.1) (HI.out.2.2.then_ H1.out.1) (Nat.le_trans hBw H1.out.1.size)).mono ?_
  rintro e w3 ⟨v3, rfl, ho3, b3⟩
  have r3 := row_then H1.out.2 b3
  have H3 := Lib.hid (And.intro (below_then H1.out.1 b3) r3)
  have hs1 := H1.out.1.size
  obtain ⟨⟨er, L⟩, hL⟩ : ∃ p, encOf (T.val (.mk k nn s la lc l da dc d)) = p := ⟨_, rfl⟩
  rw [hL] at ho3 ⊢
  clear b3 r3 c1
  by_cases he : er = 0
  · subst he
    obtain ⟨hd, hr, rfl⟩ := encOf_zero hL
    obtain ⟨d2, hv2, hrv, hsz, hmax⟩ := right_doc hd hr
    have h5 := (doc_head (d := d2) (by rw [← hv2]; exact hmax)).2
    rw [← hv2] at h5
    have hB := isB_encV _ _ hrv
    clear hv2 hrv hsz
    by_cases ha : at_ < 0
    · go_wp2_with fail
      go_ret
      exact ⟨rfl, H3.out.1⟩
    · obtain ⟨p, rfl⟩ : ∃ p : Nat, at_ = p := ⟨at_.toNat, by omega⟩
      obtain ⟨g, c3, rfl, hcap⟩ := ho3.form (by show 1 ≤ (encV _).length; omega)
      have HF := Lib.hid (And.intro hd (And.intro hr (And.intro (T.ok.fit _ HI.out.1) hB)))
      have HO := Lib.hid ho3
      have HL := Lib.hid hL
      clear hL hd hr hB ho3
      dsimp only at HO hcap ⊢
      generalize hLL : encV (T.val (.mk k nn s la lc l da dc d)) = L at *
      have hk0 : p % L.length < L.length := Nat.mod_lt _ (by omega)
      obtain ⟨x, hx⟩ : ∃ x, L[p % L.length]? = some x := ⟨_, List.getElem?_eq_getElem hk0⟩
      have HX := Lib.hid hx
      obtain ⟨q1, q2⟩ := HO.out.atB hx
      have hne : ((L.length : Nat) : Int) ≠ 0 := by omega
      have hmod : (p : Int) % (L.length : Int) = ((p % L.length : Nat) : Int) := by omega
      generalize hkk : p % L.length = kk at *
      clear hx
      go_wp2_with fail
      obtain ⟨so, sg⟩ := HO.out.setB kk too
      have hg0 := (HO.out.block g rfl).1
      have BU := Lib.hid (H3.out.1.grown sg H3.out.1.size (fun b hb => by injection hb with hb; omega))
      have RU := Lib.hid ((sg.block w.heap.size (lt_of_block H3.out.2) (by intro e; injection e with e; have := lt_of_block H1.out.2; omega)).trans H3.out.2)
      have hsl : (L.set kk too).length = L.length := List.length_set
      obtain ⟨a', c', e', ib, -⟩ := so.shape
      injection e' with e1 e2 e3
      subst e1 e3
      generalize w3.setCell ⟨g, kk, none⟩ (.int .u8 too) = U at so sg BU RU ib ⊢
      have hBset : isB (L.set kk too) := fun y hy => by
        rcases List.mem_or_eq_of_mem_set hy with hy | rfl
        · exact HF.out.2.2.2 y hy
        · exact ⟨ht0, ht1⟩
      have K := Dec_any (some ⟨g, 0, none⟩) c3 (L.set kk too) (L.length + 2) (reads_all _).1 U ib (by omega) (by omega) hBset ib.low (HI.out.2.2.then_ BU.out) (Nat.le_trans hBw BU.out.size) (by omega)
      have HT := Lib.hid (turned (x := x) (too := too) (n := L.length + 2) (k := kk) HF.out.1 HF.out.2.1 HF.out.2.2.1 (by rw [hLL]; exact HX.out) (by rw [hLL]; exact hBset) (by rw [hLL]; exact Nat.le_refl _))
      have HDB := Lib.hid (fun c q (h : decF (L.length + 2) (L.set kk too) = .bad c q) => dec_bad hBset (by rw [hsl]; exact Nat.le_refl _) h)
      rw [hsl] at K
      clear so sg q1 q2 e2 ib hBset hsl HO HX
      refine K.mono ?_
      rintro e w5 ⟨b5, hres⟩
      have r5 := row_then RU.out b5
      have H5 := Lib.hid (And.intro (below_then BU.out b5) r5)
      clear b5 r5 K RU BU
      rcases hT : decF (L.length + 2) (L.set kk too) with ⟨c', q⟩ | ⟨v, m⟩
      · rw [hT] at hres
        obtain rfl := hres
        rw [show ∀ x y : Value, #[x] ++ placeN 0 ++ #[y] = #[x, y] from fun _ _ => rfl]
        have hc0 := HDB.out _ _ hT
        have hcb : (c' == 0) = false := by simpa using hc0
        have hxt : (x == too) = false := by
          rw [beq_eq_false_iff_ne]
          intro e
          have := HT.out.1 e
          rw [hLL, hT] at this
          cases this
        have X5 := below2 w5 (.cells #[.int .i64 0, .int .i64 0, .string ⟨#[]⟩, .slice none 0 0, .slice none 0 0] 25) (.cells #[.int .i64 c', .int .i64 q] 36)
        have g0 := row_cells (row_then H5.out.2 X5)
        have y2 := heap_alloc2_new w5 (.cells #[.int .i64 0, .int .i64 0, .string ⟨#[]⟩, .slice none 0 0, .slice none 0 0] 25) (.cells #[.int .i64 c', .int .i64 q] 36)
        have HY := Lib.hid (And.intro y2 X5)
        clear y2 X5 hT
        go_wp2_with fail
        refine (same_any (.mk k nn s la lc l da dc d) zeroT _ HI.out.1 zeroT_ok ((HI.out.2.1.then_ H5.out.1).then_ HY.out.2) (zeroT_in _)).mono ?_
        rintro e w6 ⟨rfl, b6⟩
        have h2 := row_cells (row_then HY.out.1 b6)
        have B6 := Lib.hid (below_then (below_then H5.out.1 HY.out.2) b6)
        clear b6 g0
        go_wp2_with fail
        go_ret
        exact ⟨rfl, B6.out⟩
      · rw [hT] at hres
        obtain ⟨t5, rfl, ht5, ho5⟩ := hres
        obtain ⟨k5, n5, s5, la5, lc5, l5, da5, dc5, d5⟩ := t5
        rw [show ∀ x y : Value, #[x] ++ placeN m ++ #[y] = #[x, y] from fun _ _ => rfl]
        dsimp only [T.arg, T.cells]
        have hsame : (x == too) = sameV (T.val (.mk k nn s la lc l da dc d)) (T.val (.mk k5 n5 s5 la5 lc5 l5 da5 dc5 d5)) := by
          rw [ht5, Bool.eq_iff_iff, beq_iff_eq, sameV_iff]
          constructor
          · intro e
            have := HT.out.1 e
            rw [hLL, hT] at this
            injection this with e1 _
            exact e1.symm
          · intro e
            exact HT.out.2 v m (by rw [hLL]; exact hT) e
        have HS := Lib.hid hsame
        have HO5 := Lib.hid ho5
        have X5 := below2 w5 (.cells #[.int .i64 k5, .int .i64 n5, .string s5, .slice la5 l5.length lc5, .slice da5 d5.length dc5] 25) (.cells #[.int .i64 0, .int .i64 0] 36)
        have g0 := row_cells (row_then H5.out.2 X5)
        have y2 := heap_alloc2_new w5 (.cells #[.int .i64 k5, .int .i64 n5, .string s5, .slice la5 l5.length lc5, .slice da5 d5.length dc5] 25) (.cells #[.int .i64 0, .int .i64 0] 36)
        have HY := Lib.hid (And.intro y2 X5)
        clear y2 X5 hT hsame ho5 ht5
        go_wp2_with fail
        refine (same_any (.mk k nn s la lc l da dc d) (.mk k5 n5 s5 la5 lc5 l5 da5 dc5 d5) _ HI.out.1 HO5.out.ok ((HI.out.2.1.then_ H5.out.1).then_ HY.out.2) (HO5.out.in_.then_ HY.out.2)).mono ?_
        rintro e w6 ⟨rfl, b6⟩
        rw [← HS.out]
        have h2 := row_cells (row_then HY.out.1 b6)
        have B6 := Lib.hid (below_then (below_then H5.out.1 HY.out.2) b6)
        clear b6 g0
        cases hxt : (x == too)
        all_goals
          go_wp2_with fail
          go_ret
          exact ⟨rfl, B6.out⟩
  · have hne : (er != 0) = true := by simpa using he
    go_wp2_with fail
    go_ret
    exact ⟨rfl, H3.out.1⟩
end Go.Proofs.YtjhmmkfhbiikdaaDoor
