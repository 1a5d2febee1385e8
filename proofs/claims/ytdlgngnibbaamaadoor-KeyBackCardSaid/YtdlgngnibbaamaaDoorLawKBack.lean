/- The law KeyBack over its contracts: no statement is proved here. -/
import Derived.Test.YtdlgngnibbaamaaDoorLawKOrder
namespace Go.Proofs.YtdlgngnibbaamaaDoor
open Go.RowKit
set_option maxRecDepth 100000

theorem isB_keyR (l : List V) : ∀ d, isB (keyR l d) := by
  induction l with
  | nil => intro d; simp only [keyR]; exact isB.nil
  | cons x r ih =>
    intro d
    cases d with
    | nil => simp only [keyR]; exact isB.nil
    | cons f d =>
      rw [keyR]
      refine isB.append ?_ (ih d)
      split
      · exact isB_flip (isB_keyV x)
      · exact isB_keyV x
theorem wrongL_zero {l : List V} (h : ∀ x ∈ l, rightOf x = 0) : wrongL l = 0 := by
  induction l with
  | nil => rfl
  | cons x r ih => rw [wrongL, if_pos (h x (by simp))]; exact ih fun y hy => h y (by simp [hy])
theorem key_of {l : List V} {d : List Bool} (h1 : l.length = d.length) (h2 : 1 ≤ d.length ∧ d.length ≤ 4) (h3 : ∀ x ∈ l, rightOf x = 0) (h4 : (keyR l d).length ≤ 1000) : keyOf l d = (0, keyR l d) := by
  unfold keyOf
  rw [if_neg (by omega), if_pos (wrongL_zero h3), if_neg (by omega)]
theorem gone {t : List T} (h : ∀ x ∈ t, x.ok) {d : List Bool} {x : List Int} (hk : keyOf (t.map T.val) d = (0, x)) : ∀ v ∈ t.map T.val, rightOf v = 0 ∧ v.fit := by
  intro v hv
  obtain ⟨-, -, -, r1, -, -⟩ := key_ok hk
  refine ⟨r1 v hv, ?_⟩
  obtain ⟨t, ht, rfl⟩ := List.mem_map.1 hv
  exact T.ok.fit t (h t ht)
theorem read_key {t : List T} {d : List Bool} {x : List Int} {l : List V} {c p : Int} (h : ∀ x ∈ t, x.ok) (hk : keyOf (t.map T.val) d = (0, x)) (hr : RdRel x d l c p) : l = t.map T.val ∧ c = 0 ∧ p = 0 := by
  have hg := gone h hk
  obtain ⟨l1, d1, d4, -, rfl, x1⟩ := key_ok hk
  rcases hr with ⟨h, -⟩ | ⟨-, h, -⟩ | ⟨-, -, h, rfl, rfl⟩ | ⟨-, -, h, -⟩
  · omega
  · omega
  · exact ⟨(h.2 _ l1 hg rfl).2, rfl, rfl⟩
  · have := (h.2 _ l1 hg rfl).1
    cases this
theorem read_back {bs : List Int} {d : List Bool} {l : List V} {p : Int} (hr : RdRel bs d l 0 p) : keyOf l d = (0, bs) := by
  rcases hr with ⟨-, -, h, -⟩ | ⟨-, -, -, h, -⟩ | ⟨h1, h2, h, -, -⟩ | ⟨-, -, -, -, h, -⟩
  · simp at h
  · simp at h
  · obtain ⟨e1, e2, rfl⟩ := h.1 rfl
    exact key_of e1 h1 e2 (by omega)
  · simp at h
theorem read_none {bs : List Int} {d : List Bool} {l : List V} {c p : Int} (hr : RdRel bs d l c p) (hc : c ≠ 0) : l = [] ∧ p = -1 := by
  rcases hr with ⟨-, h, -, h2⟩ | ⟨-, -, h, -, h2⟩ | ⟨-, -, -, h, -⟩ | ⟨-, -, -, h, -, h2⟩
  · exact ⟨h, h2⟩
  · exact ⟨h, h2⟩
  · exact absurd h hc
  · exact ⟨h, h2⟩
theorem eq_of_cmpB : ∀ {x y : List Int}, cmpB x y = 0 → x = y := by
  intro x
  induction x with
  | nil => intro y h; cases y with
    | nil => rfl
    | cons => simp [cmpB, lex] at h
  | cons a x ih =>
    intro y h
    cases y with
    | nil => simp [cmpB, lex] at h
    | cons b y =>
      unfold cmpB lex at h
      split at h
      · rename_i h1
        have e : a = b := by unfold cmpI at h1; split at h1; omega; split at h1 <;> omega
        rw [e, ih h]
      · rename_i h1
        exact absurd h h1
theorem no_begin {a b : List T} {d : List Bool} {x y : List Int} (ha : ∀ t ∈ a, t.ok) (hb : ∀ t ∈ b, t.ok) (h1 : keyOf (a.map T.val) d = (0, x)) (h2 : keyOf (b.map T.val) d = (0, y)) (h : x.length < y.length) : cmpB x (y.take x.length) ≠ 0 := by
  intro hc
  have hp : x <+: y := by rw [List.prefix_iff_eq_take]; exact eq_of_cmpB hc
  obtain ⟨r, hr⟩ := hp
  rcases row_says ha hb h1 h2 with ⟨-, e⟩ | ⟨-, e⟩ | ⟨-, e⟩
  · rw [e] at h; omega
  · exact e.not_prefix r hr.symm
  · exact e.not_prefix' r hr.symm
theorem holdL_parts {w : World} {B : Nat} {a : Option Addr} {c : Nat} {ts : List T} (h : (holdL a c ts).Own w B) : InL w a ts ∧ (∀ x ∈ ts, x.ok) ∧ okLen (ts.length * 80) :=
  ⟨h.in_.parts.1, h.ok.parts.2.2.2.2.2.2.2.2.2.1, h.ok.parts.2.2.2.2.2.2.1⟩

set_option maxHeartbeats 8000000 in
theorem kback_law (la : Option Addr) (ca : Nat) (a : List T) (lb : Option Addr) (cb : Nat) (b : List T) (ld : Option Addr) (cd : Nat) (d : List Bool) (lc : Option Addr) (cc : Nat) (c : List Int) (w : World) (ha : InL w la a) (hb : InL w lb b) (hd : InF w ld d) (hc : InB w lc c) (hcb : isB c) (na : okLen (a.length * 80)) (nb : okLen (b.length * 80)) (nd : d.length ≤ 140737488351232) (nc : c.length ≤ cc ∧ cc ≤ 140737488351232) (oka : ∀ x ∈ a, x.ok) (okb : ∀ x ∈ b, x.ok) (hT : Tabs w) :
    Calls Tryd.prog 12 #[.slice la a.length ca, .slice lb b.length cb, .slice ld d.length cd, .slice lc c.length cc] w fun e w' => e = .returned (.bool true) ∧ Below w.heap.size w w' := by
  have HA := Lib.hid (And.intro ha (And.intro hb (And.intro hd hT)))
  have HC := Lib.hid (And.intro hc hcb)
  have OK := Lib.hid (And.intro oka okb)
  have na2 : a.length ≤ 1759218604390 := by have : a.length * 80 ≤ 140737488351232 := na; omega
  have nb2 : b.length ≤ 1759218604390 := by have : b.length * 80 ≤ 140737488351232 := nb; omega
  clear ha hb hd hT oka okb na nb hc hcb
  go_enter Tryd.func12, Tryd.ntmps12
  go_wp2_with fail
  refine (awake03_any _ HA.out.2.2.2).mono ?_
  rintro e w1 ⟨rfl, b1⟩
  have B1 := Lib.hid b1
  clear b1
  go_wp2_with fail
  refine (key_any la ca a ld cd d w1 (HA.out.1.then_ B1.out) (HA.out.2.2.1.then_ B1.out) na2 OK.out.1 (HA.out.2.2.2.then_ B1.out)).mono ?_
  rintro e w2 ⟨va, rfl, oa, b2⟩
  have B2 := Lib.hid (below_then B1.out b2)
  obtain ⟨⟨ea, x⟩, hkx⟩ : ∃ p, keyOf (a.map T.val) d = p := ⟨_, rfl⟩
  rw [hkx] at oa ⊢
  have OA := Lib.hid oa
  have KX := Lib.hid hkx
  clear b2 B1 oa hkx
  go_wp2_with fail
  refine (key_any lb cb b ld cd d w2 (HA.out.2.1.then_ B2.out) (HA.out.2.2.1.then_ B2.out) nb2 OK.out.2 (HA.out.2.2.2.then_ B2.out)).mono ?_
  rintro e w3 ⟨vb, rfl, ob, b3⟩
  obtain ⟨⟨eb, y⟩, hky⟩ : ∃ p, keyOf (b.map T.val) d = p := ⟨_, rfl⟩
  rw [hky] at ob ⊢
  have OA3 := Lib.hid (OA.out.then_ b3)
  have OB := Lib.hid ob
  have KY := Lib.hid hky
  have B3 := Lib.hid (below_then B2.out b3)
  clear b3 B2 ob hky OA
  by_cases h1 : ea = 0
  · subst h1
    obtain ⟨l1, d1, d4, -, ex, x1⟩ := key_ok KX.out
    have hxB := Lib.hid (ex ▸ isB_keyR _ d : isB x)
    clear l1
    obtain ⟨aa, ac, rfl, ia, -, la1, -⟩ := OA3.out.shape
    have IA := Lib.hid ia
    clear ia ex
    go_wp2_with fail
    refine (read_any aa ac x ld cd d w3 IA.out (HA.out.2.2.1.then_ B3.out) hxB.out (by omega) (by omega) (HA.out.2.2.2.then_ B3.out)).mono ?_
    rintro e w4 ⟨al, cl, ts, code, place, rfl, hy, b4, hr⟩
    obtain ⟨hv, rfl, rfl⟩ := read_key OK.out.1 KX.out hr
    obtain ⟨pin, pok, -⟩ := holdL_parts hy
    have hlen : ts.length = a.length := by have := congrArg List.length hv; simpa using this
    have B4 := Lib.hid (below_then B3.out b4)
    have A4 := Lib.hid (IA.out.then_ b4)
    have Y4 := Lib.hid (OB.out.then_ b4)
    have P4 := Lib.hid (And.intro pin (And.intro pok hv))
    clear b4 hy hr pin pok hv OA3 OB B3 IA
    rw [hlen]
    go_wp2_with fail
    have X4 := Lib.hid (below1 w4 (.cells #[.int .i64 0, .int .i64 0] 36))
    have F4 := heap_alloc_new w4 (.cells #[.int .i64 0, .int .i64 0] 36)
    refine (sameList_any al la cl ca a.length ts a _ hlen rfl (P4.out.1.then_ X4.out) (HA.out.1.then_ (below_then B4.out X4.out)) (by omega) P4.out.2.1 OK.out.1 P4.out.2.2).mono ?_
    rintro e w5 ⟨rfl, b5⟩
    have fl := row_cells (row_then F4 b5)
    have HQ := Lib.hid (below_then B4.out (below_then X4.out b5))
    have A5 := Lib.hid (A4.out.then_ (below_then X4.out b5))
    have Y5 := Lib.hid (Y4.out.then_ (below_then X4.out b5))
    clear b5 F4 X4 P4 A4 Y4 B4 hlen
    by_cases h2 : eb = 0
    · subst h2
      obtain ⟨-, -, -, -, -, y1⟩ := key_ok KY.out
      obtain ⟨ba, bc, rfl, ib, -, lb1, -⟩ := Y5.out.shape
      have IB := Lib.hid ib
      clear ib
      by_cases hlt : x.length < y.length
      · have HN := no_begin OK.out.1 OK.out.2 KX.out KY.out hlt
        have htk : (y.take x.length).length = x.length := by simp; omega
        generalize hz : cmpB x (y.take x.length) = z at HN
        have HZ := Lib.hid hz
        clear hz
        go_wp2_with fail
        have K6 := bcompare_any aa ba ac bc x (y.take x.length) w5 A5.out (IB.out.take _) (by omega) (by omega)
        rw [htk, HZ.out] at K6
        refine K6.mono ?_
        rintro e w6 ⟨rfl, b6⟩
        replace HQ := Lib.hid (below_then HQ.out b6)
        clear b6 K6 fl
        go_wp2_with fail
        refine (read_any lc cc c ld cd d _ (HC.out.1.then_ HQ.out) (HA.out.2.2.1.then_ HQ.out) HC.out.2 (by omega) (by omega) (HA.out.2.2.2.then_ HQ.out)).mono ?_
        rintro e wr ⟨al, cl, ts, code, place, rfl, hy, br, hr⟩
        have HR := Lib.hid hr
        have HY := Lib.hid (holdL_parts hy)
        have BR := Lib.hid (below_then HQ.out br)
        clear br hr hy
        by_cases hcode : code = 0
        · subst hcode
          have KR := Lib.hid (read_back HR.out)
          have hts : ts.length ≤ 1759218604390 := by have h : ts.length * 80 ≤ 140737488351232 := HY.out.2.2; omega
          have XR := Lib.hid (below1 wr (.cells #[.int .i64 0, .int .i64 place] 36))
          go_wp2_with fail
          refine (key_any al cl ts ld cd d _ (HY.out.1.then_ XR.out) (HA.out.2.2.1.then_ (below_then BR.out XR.out)) hts HY.out.2.1 (HA.out.2.2.2.then_ (below_then BR.out XR.out))).mono ?_
          rintro e ws ⟨vz, rfl, oz, bs⟩
          rw [KR.out] at oz ⊢
          obtain ⟨za, zc, rfl, iz, -, -, -⟩ := oz.shape
          have IZ := Lib.hid iz
          have BS := Lib.hid (below_then BR.out (below_then XR.out bs))
          clear iz oz bs
          go_wp2_with fail
          refine (bsame_any za lc zc cc c.length c.length c c ws rfl rfl IZ.out (HC.out.1.then_ BS.out) (by omega)).mono ?_
          rintro e wt ⟨rfl, bt⟩
          simp only [decide_true]
          have BT := Lib.hid (below_then BS.out bt)
          clear bt
          go_wp2_with fail
          go_ret
          exact ⟨rfl, BT.out⟩
        · obtain ⟨hnil, rfl⟩ := read_none HR.out hcode
          obtain rfl := List.map_eq_nil_iff.1 hnil
          clear hnil
          go_wp2_with fail
          go_ret
          exact ⟨rfl, below_then BR.out (below1 _ _)⟩
      · go_wp2_with fail
        refine (read_any lc cc c ld cd d _ (HC.out.1.then_ HQ.out) (HA.out.2.2.1.then_ HQ.out) HC.out.2 (by omega) (by omega) (HA.out.2.2.2.then_ HQ.out)).mono ?_
        rintro e wr ⟨al, cl, ts, code, place, rfl, hy, br, hr⟩
        have HR := Lib.hid hr
        have HY := Lib.hid (holdL_parts hy)
        have BR := Lib.hid (below_then HQ.out br)
        clear br hr hy
        by_cases hcode : code = 0
        · subst hcode
          have KR := Lib.hid (read_back HR.out)
          have hts : ts.length ≤ 1759218604390 := by have h : ts.length * 80 ≤ 140737488351232 := HY.out.2.2; omega
          have XR := Lib.hid (below1 wr (.cells #[.int .i64 0, .int .i64 place] 36))
          go_wp2_with fail
          refine (key_any al cl ts ld cd d _ (HY.out.1.then_ XR.out) (HA.out.2.2.1.then_ (below_then BR.out XR.out)) hts HY.out.2.1 (HA.out.2.2.2.then_ (below_then BR.out XR.out))).mono ?_
          rintro e ws ⟨vz, rfl, oz, bs⟩
          rw [KR.out] at oz ⊢
          obtain ⟨za, zc, rfl, iz, -, -, -⟩ := oz.shape
          have IZ := Lib.hid iz
          have BS := Lib.hid (below_then BR.out (below_then XR.out bs))
          clear iz oz bs
          go_wp2_with fail
          refine (bsame_any za lc zc cc c.length c.length c c ws rfl rfl IZ.out (HC.out.1.then_ BS.out) (by omega)).mono ?_
          rintro e wt ⟨rfl, bt⟩
          simp only [decide_true]
          have BT := Lib.hid (below_then BS.out bt)
          clear bt
          go_wp2_with fail
          go_ret
          exact ⟨rfl, BT.out⟩
        · obtain ⟨hnil, rfl⟩ := read_none HR.out hcode
          obtain rfl := List.map_eq_nil_iff.1 hnil
          clear hnil
          go_wp2_with fail
          go_ret
          exact ⟨rfl, below_then BR.out (below1 _ _)⟩
    · go_wp2_with fail
      refine (read_any lc cc c ld cd d _ (HC.out.1.then_ HQ.out) (HA.out.2.2.1.then_ HQ.out) HC.out.2 (by omega) (by omega) (HA.out.2.2.2.then_ HQ.out)).mono ?_
      rintro e wr ⟨al, cl, ts, code, place, rfl, hy, br, hr⟩
      have HR := Lib.hid hr
      have HY := Lib.hid (holdL_parts hy)
      have BR := Lib.hid (below_then HQ.out br)
      clear br hr hy
      by_cases hcode : code = 0
      · subst hcode
        have KR := Lib.hid (read_back HR.out)
        have hts : ts.length ≤ 1759218604390 := by have h : ts.length * 80 ≤ 140737488351232 := HY.out.2.2; omega
        have XR := Lib.hid (below1 wr (.cells #[.int .i64 0, .int .i64 place] 36))
        go_wp2_with fail
        refine (key_any al cl ts ld cd d _ (HY.out.1.then_ XR.out) (HA.out.2.2.1.then_ (below_then BR.out XR.out)) hts HY.out.2.1 (HA.out.2.2.2.then_ (below_then BR.out XR.out))).mono ?_
        rintro e ws ⟨vz, rfl, oz, bs⟩
        rw [KR.out] at oz ⊢
        obtain ⟨za, zc, rfl, iz, -, -, -⟩ := oz.shape
        have IZ := Lib.hid iz
        have BS := Lib.hid (below_then BR.out (below_then XR.out bs))
        clear iz oz bs
        go_wp2_with fail
        refine (bsame_any za lc zc cc c.length c.length c c ws rfl rfl IZ.out (HC.out.1.then_ BS.out) (by omega)).mono ?_
        rintro e wt ⟨rfl, bt⟩
        simp only [decide_true]
        have BT := Lib.hid (below_then BS.out bt)
        clear bt
        go_wp2_with fail
        go_ret
        exact ⟨rfl, BT.out⟩
      · obtain ⟨hnil, rfl⟩ := read_none HR.out hcode
        obtain rfl := List.map_eq_nil_iff.1 hnil
        clear hnil
        go_wp2_with fail
        go_ret
        exact ⟨rfl, below_then BR.out (below1 _ _)⟩
  · have HQ := Lib.hid B3.out
    go_wp2_with fail
    refine (read_any lc cc c ld cd d _ (HC.out.1.then_ HQ.out) (HA.out.2.2.1.then_ HQ.out) HC.out.2 (by omega) (by omega) (HA.out.2.2.2.then_ HQ.out)).mono ?_
    rintro e wr ⟨al, cl, ts, code, place, rfl, hy, br, hr⟩
    have HR := Lib.hid hr
    have HY := Lib.hid (holdL_parts hy)
    have BR := Lib.hid (below_then HQ.out br)
    clear br hr hy
    by_cases hcode : code = 0
    · subst hcode
      have KR := Lib.hid (read_back HR.out)
      have hts : ts.length ≤ 1759218604390 := by have h : ts.length * 80 ≤ 140737488351232 := HY.out.2.2; omega
      have XR := Lib.hid (below1 wr (.cells #[.int .i64 0, .int .i64 place] 36))
      go_wp2_with fail
      refine (key_any al cl ts ld cd d _ (HY.out.1.then_ XR.out) (HA.out.2.2.1.then_ (below_then BR.out XR.out)) hts HY.out.2.1 (HA.out.2.2.2.then_ (below_then BR.out XR.out))).mono ?_
      rintro e ws ⟨vz, rfl, oz, bs⟩
      rw [KR.out] at oz ⊢
      obtain ⟨za, zc, rfl, iz, -, -, -⟩ := oz.shape
      have IZ := Lib.hid iz
      have BS := Lib.hid (below_then BR.out (below_then XR.out bs))
      clear iz oz bs
      go_wp2_with fail
      refine (bsame_any za lc zc cc c.length c.length c c ws rfl rfl IZ.out (HC.out.1.then_ BS.out) (by omega)).mono ?_
      rintro e wt ⟨rfl, bt⟩
      simp only [decide_true]
      have BT := Lib.hid (below_then BS.out bt)
      clear bt
      go_wp2_with fail
      go_ret
      exact ⟨rfl, BT.out⟩
    · obtain ⟨hnil, rfl⟩ := read_none HR.out hcode
      obtain rfl := List.map_eq_nil_iff.1 hnil
      clear hnil
      go_wp2_with fail
      go_ret
      exact ⟨rfl, below_then BR.out (below1 _ _)⟩
end Go.Proofs.YtdlgngnibbaamaaDoor
