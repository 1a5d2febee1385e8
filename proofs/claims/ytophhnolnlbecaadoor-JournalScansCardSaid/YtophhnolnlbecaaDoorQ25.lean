/- Package block's Disk.Sync: its contract. Package block's Hand.Crash: its contract. A disk's steps as the statements have them: rows of them as they lie. No statement is proved here. -/
import Derived.Test.YtophhnolnlbecaaDoorQ24
import Derived.Test.YtophhnolnlbecaaDoorQ17
namespace Go.Proofs.YtophhnolnlbecaaDoor
open Go.RowKit
open Go.Maps (Keyed IsMap Tidy)
set_option maxRecDepth 100000

set_option maxHeartbeats 4000000 in
theorem act_sync (g : Nat) (w : World) (B : Base) (N N' : Nat) (d : Dk) (f : Dk → Dk) (a : Addr) (hb : BoxAt w B g d N)
    (hf : ∀ w1 d1, BoxAt w1 B g d1 N → d1.many = d.many → Turns TB B.lo w w1 → Calls Tryd.prog 60 #[.pointer (some a)] w1 fun e w' => e = .returned (.tuple #[]) ∧ BoxAt w' B g (f d1) N' ∧ Turns TB B.lo w1 w')
    (hdn : ∀ d1 : Dk, f { d1 with down := true } = { f d1 with down := true }) (hN : N ≤ N') :
    Calls Tryd.prog 59 #[.pointer (some ⟨g, 0, none⟩), .func (.func 60) #[] #[.pointer (some a)]] w fun e w' => e = .returned (errV d.errA) ∧ BoxAt w' B g (if d.does then f d.acted else d.acted) N' ∧ Turns TB B.lo w w' := by
  have HF := Lib.hid hf
  have HD := Lib.hid hdn
  clear hf hdn
  have HB := Lib.hid hb
  obtain ⟨hok, s, hb⟩ := hb
  obtain ⟨q0, q1, q2, q3, q4, q5, q6, q7⟩ := boxC_get d s.sb s.nb s.wv
  have c4 := (hb.cells 4).trans q4
  have c5 := (hb.cells 5).trans q5
  have c6 := (hb.cells 6).trans q6
  have c7 := (hb.cells 7).trans q7
  have f5 := hb.frozen 5
  have f7 := hb.frozen 7
  have HO := Lib.hid hb
  have ha := hb.acts
  clear q0 q1 q2 q3 q4 q5 q6 q7 hb hok
  by_cases h4 : d.armed = false
  · have hg : d.goes = false := by unfold Dk.goes; rw [h4]; rfl
    have h1 : d.does = true := by unfold Dk.does; rw [hg]; rfl
    have h2 : d.acted = d := by unfold Dk.acted; rw [hg, h4]; rfl
    have h3 : d.errA = 0 := by unfold Dk.errA; rw [hg]; rfl
    rw [h1, h2, h3, if_pos rfl, errV_zero]
    rw [h4] at c4
    have HC := Lib.hid (HF.out w d HB.out rfl (Turns.refl _ _ _))
    clear hg h1 h2 h3 h4
    go_enter Tryd.func59, Tryd.ntmps59
    go_wp2_with (go_at_call 60; refine HC.out.mono ?_; rintro e w1 ⟨rfl, hb1, ht1⟩)
    go_ret
    exact ⟨rfl, hb1, ht1⟩
  · replace h4 : d.armed = true := by simpa using h4
    rw [h4] at c4
    by_cases h5 : d.acts = 0
    · have hg : d.goes = true := by unfold Dk.goes; rw [h4, h5]; rfl
      have h2 : d.acted = { d with down := true } := by unfold Dk.acted; rw [hg]; rfl
      have h3 : d.errA = 5 := by unfold Dk.errA; rw [hg]; rfl
      have hz : ((d.acts : Int) == 0) = true := by rw [h5]; rfl
      rw [h2, h3, errV_mk (by omega)]
      by_cases h6 : d.done = false
      · have h1 : d.does = false := by unfold Dk.does; rw [hg]; exact h6
        rw [h6] at c6
        rw [h1, if_neg (by simp)]
        have HE := Lib.hid (down_end HB.out.1 HO.out)
        clear hg h1 h2 h3 h4 h5 h6
        go_enter Tryd.func59, Tryd.ntmps59
        go_wp2_with fail
        go_ret
        exact ⟨rfl, HE.out.1.more hN, HE.out.2⟩
      · replace h6 : d.done = true := by simpa using h6
        have h1 : d.does = true := by unfold Dk.does; rw [hg]; exact h6
        rw [h6] at c6
        rw [h1]
        have HC := Lib.hid (HF.out w d HB.out rfl (Turns.refl _ _ _))
        rw [if_pos rfl]
        clear hg h1 h2 h3 h4 h5 h6
        go_enter Tryd.func59, Tryd.ntmps59
        go_wp2_with (go_at_call 60; refine HC.out.mono ?_; rintro e w1 ⟨rfl, ⟨k1, s1, hb1⟩, ht1⟩; have HE := Lib.hid (down_end k1 hb1); have c71 := (hb1.cells 7).trans (boxC_get (f d) s1.sb s1.nb s1.wv).2.2.2.2.2.2.2; have f71 := hb1.frozen 7; have HT := Lib.hid ht1; clear k1 hb1 ht1)
        go_ret
        exact ⟨rfl, by rw [HD.out]; exact HE.out.1, HT.out.trans HE.out.2⟩
    · have hg : d.goes = false := by unfold Dk.goes; rw [h4]; simp [h5]
      have h1 : d.does = true := by unfold Dk.does; rw [hg]; rfl
      have h2 : d.acted = { d with acts := d.acts - 1 } := by unfold Dk.acted; rw [hg, h4]; rfl
      have h3 : d.errA = 0 := by unfold Dk.errA; rw [hg]; rfl
      have hz : ((d.acts : Int) == 0) = false := by simp; omega
      have hw : wrap64 ((d.acts : Int) - 1) = ((d.acts - 1 : Nat) : Int) := by simp only [wrap64]; omega
      have hw2 : (d.acts : Int) - 1 = ((d.acts - 1 : Nat) : Int) := by omega
      rw [h1, h2, h3, if_pos rfl, errV_zero]
      have HA := Lib.hid (less_end HB.out.1 HO.out)
      have HC := Lib.hid (HF.out _ _ HA.out.1 rfl HA.out.2)
      clear hg h1 h2 h3 h4
      go_enter Tryd.func59, Tryd.ntmps59
      go_wp2_with (go_at_call 60; (first | rw [hw] | rw [hw2] | skip); refine HC.out.mono ?_; rintro e w1 ⟨rfl, hb1, ht1⟩)
      go_ret
      exact ⟨rfl, hb1, HA.out.2.trans ht1⟩

theorem Dk.sync_down {d : Dk} (h : d.down = true) : d.sync = d ∧ d.syncE = 5 := by simp [Dk.sync, Dk.syncE, h]
theorem Dk.sync_up {d : Dk} (h : d.down = false) : d.sync = (if d.does then d.acted.settle else d.acted) ∧ d.syncE = d.errA := by simp [Dk.sync, Dk.syncE, h]
set_option maxHeartbeats 4000000 in
theorem dsync_any (h g : Nat) (w : World) (B : Base) (N : Nat) (d : Dk) (hh : w.heap[h]? = some (.cells #[.pointer (some ⟨g, 0, none⟩)] 86)) (hb : BoxAt w B g d N) (hN : N ≤ 1099511627776) :
    Calls Tryd.prog 28 #[.pointer (some ⟨h, 0, none⟩)] w fun e w' => e = .returned (errV d.syncE) ∧ BoxAt w' B g d.sync N ∧ Turns TB B.lo w w' := by
  have HB := Lib.hid hb
  obtain ⟨hok, s, hb⟩ := hb
  obtain ⟨q0, q1, q2, q3, q4, q5, q6, q7⟩ := boxC_get d s.sb s.nb s.wv
  have c7 := (hb.cells 7).trans q7
  have h0 : w.cell? ⟨h, 0, none⟩ = some (.pointer (some ⟨g, 0, none⟩)) := row_cells hh 0
  have hlt := lt_of_block hh
  have glt := hb.lt
  have hgB := hb.gB
  have HT := Lib.hid (fun X => Turns.of_below (T := TB) (B := B.lo) (by omega) (below1 w X))
  have HC : Hid ((w.alloc (.cells #[.pointer (some ⟨h, 0, none⟩)] 41)).heap[w.heap.size]? = some (.cells #[.pointer (some ⟨h, 0, none⟩)] 41) ∧ (w.alloc (.cells #[.pointer (some ⟨h, 0, none⟩)] 41)).heap[h]? = some (.cells #[.pointer (some ⟨g, 0, none⟩)] 86)) := Lib.hid ⟨heap_alloc_new w _, ((below1 w _).block h hlt).trans hh⟩
  clear q0 q1 q2 q3 q4 q5 q6 q7 hb hok hh
  by_cases hd : d.down = true
  · obtain ⟨e1, e2⟩ := Dk.sync_down hd
    rw [e1, e2, errV_mk (by omega)]
    rw [hd] at c7
    clear hd e1 e2
    go_enter Tryd.func28, Tryd.ntmps28
    go_wp2_with fail
    go_ret
    exact ⟨rfl, HB.out.then_ (below1 _ _), HT.out _⟩
  replace hd : d.down = false := by simpa using hd
  obtain ⟨e1, e2⟩ := Dk.sync_up hd
  rw [e1, e2]
  generalize hD : (if d.does = true then d.acted.settle else d.acted) = D
  have HD := Lib.hid hD
  rw [hd] at c7
  clear hd e1 e2 hD
  go_enter Tryd.func28, Tryd.ntmps28
  go_wp2_with (go_at_call 59; refine (act_sync g _ B N N d Dk.settle _ (HB.out.then_ (below1 w _)) (fun w4 d1 h1 h2 h3 => sync1_any _ h g w4 B N d1 (h3.block _ _ HC.out.1 (TB_no (by decide) (by decide) _ _)) (h3.block _ _ HC.out.2 (TB_no (by decide) (by decide) _ _)) hN h1) (fun d1 => rfl) (Nat.le_refl _)).mono ?_; rintro e w5 ⟨rfl, hb5, ht5⟩; have H5 := Lib.hid (And.intro hb5 ht5); clear hb5 ht5)
  go_ret
  exact ⟨rfl, HD.out ▸ H5.out.1, (HT.out _).trans H5.out.2⟩
end Go.Proofs.YtophhnolnlbecaaDoor
namespace Go.Proofs.YtophhnolnlbecaaDoor
open Go.RowKit
open Go.Maps (Keyed IsMap Tidy)
set_option maxRecDepth 100000

/-- A row of bools stands at that place, below block B. -/
def InK (w : World) (B : Nat) (a : Option Addr) (l : List Bool) : Prop := ∀ i x, l[i]? = some x → ∃ b o, a = some ⟨b, o, none⟩ ∧ b < B ∧ w.cell? ⟨b, o + i, none⟩ = some (.bool x)
theorem InK.then_ {w w' : World} {B : Nat} {a : Option Addr} {l : List Bool} (h : InK w B a l) (hb : Below B w w') : InK w' B a l := fun i x hx => by
  obtain ⟨b, o, ha, hl, hc⟩ := h i x hx
  exact ⟨b, o, ha, hl, (hb.cell hl).trans hc⟩
theorem stay_snoc (l : List (Nat × List Int)) (p : Nat × List Int) (bs : List Bool) : stay (l ++ [p]) bs = stay l bs ++ (if bs[l.length]? = some true then [p] else []) := by
  induction l generalizing bs with
  | nil => cases bs with
    | nil => rfl
    | cons b bs => cases b <;> simp [stay]
  | cons q l ih => cases bs with
    | nil => simp [stay]
    | cons b bs =>
      rw [List.cons_append, stay, stay, ih]
      cases b <;> simp
/-- Kept so far. -/
def Dk.kept (d : Dk) (bs : List Bool) (k : Nat) : Dk := { d with safe := over d.safe (stay (d.wait.take k) bs) }
theorem Dk.kept_yes (d : Dk) {bs : List Bool} {k : Nat} {p : Nat × List Int} (h : d.wait[k]? = some p) (hb : bs[k]? = some true) : (d.kept bs k).lay p.1 p.2 = d.kept bs (k + 1) := by
  have hk := lt_of_get h
  unfold Dk.lay Dk.kept
  have e : d.wait.take (k + 1) = d.wait.take k ++ [p] := by rw [List.take_add_one, h]; rfl
  rw [e, stay_snoc, List.length_take, Nat.min_eq_left (by omega), if_pos hb, over_snoc]
theorem Dk.kept_no (d : Dk) {bs : List Bool} {k : Nat} {p : Nat × List Int} (h : d.wait[k]? = some p) (hb : bs[k]? ≠ some true) : d.kept bs (k + 1) = d.kept bs k := by
  have hk := lt_of_get h
  unfold Dk.kept
  have e : d.wait.take (k + 1) = d.wait.take k ++ [p] := by rw [List.take_add_one, h]; rfl
  rw [e, stay_snoc, List.length_take, Nat.min_eq_left (by omega), if_neg hb, List.append_nil]
theorem BoxOf.upTo {w : World} {B : Base} {g N N' : Nat} {d : Dk} {s : Spot} (h : BoxOf w B g d N s) (hN : N ≤ N') : BoxOf w B g d N' s := { h with numS := Nat.le_trans h.numS hN, numN := Nat.le_trans h.numN hN }
/-- What is read begins anew. -/
theorem BoxOf.renewed {w : World} {B : Base} {g N : Nat} {d : Dk} {s : Spot} (h : BoxOf w B g d N s) : BoxOf ((w.alloc (.map #[] 0)).setCell ⟨g, 2, none⟩ (.map (some w.heap.size))) B g { d with now := noSecs } N { s with nb := w.heap.size, nN := 0, DN := .map [] } ∧ Turns TB B.lo w ((w.alloc (.map #[] 0)).setCell ⟨g, 2, none⟩ (.map (some w.heap.size))) := by
  have h1 := h.then_ (below1 w (.map #[] 0))
  have hgl := h.lt
  have hm : (w.alloc (.map #[] 0)).heap[w.heap.size]? = some (.map #[] 0) := heap_alloc_new w _
  have hb : ∀ b, b ≠ g → ((w.alloc (.map #[] 0)).setCell ⟨g, 2, none⟩ (.map (some w.heap.size))).heap[b]? = (w.alloc (.map #[] 0)).heap[b]? := fun b hne => set_off _ _ hne
  have keep : ∀ v r, RowAt (w.alloc (.map #[] 0)) B v r → RowAt ((w.alloc (.map #[] 0)).setCell ⟨g, 2, none⟩ (.map (some w.heap.size))) B v r := fun v r hx => hx.keep fun b hb' => hb b (h1.rowNe hx b hb').1
  refine ⟨?_, (Turns.of_below (Nat.le_trans h.gB (Nat.le_of_lt h.lt)) (below1 w _)).setCell (p := ⟨g, 2, none⟩) h1.box (TB_box _ _) h.gB _⟩
  exact {
    box := set_heap (i := 2) h1.box _
    gB := h.gB
    sB := h.sB
    nB := Nat.le_trans h.gB (Nat.le_of_lt h.lt)
    ne := Nat.ne_of_lt h.sbLt
    mapS := owns_keep h1.mapS (hb _ h1.gsb.symm)
    mapN := owns_keep (World.ownsMap_made w _ _ _) (hb _ (by show w.heap.size ≠ g; omega))
    isS := h1.isS.keep keep
    isN := MapIs.start _ _
    wlen := h.wlen
    wait := row_keepW h1.wait fun b hb' => hb b (h1.wvNe b hb').1
    rows := fun i p v e1 e2 => keep _ _ (h1.rows i p v e1 e2)
    numS := h.numS
    numN := Nat.zero_le _
    many := h.many
    acts := h.acts }
/-- What has come over so far of what is safe. -/
def come (f : Secs) (left : Lit → Bool) : Secs := fun k => if left (.int .i64 (k : Int)) then none else f k
theorem same_key (a b : Int) : (Lit.int .i64 a).sameKey (.int .i64 b) = decide (a = b) := by
  by_cases h : a = b
  · subst h; simp [Lit.sameKey]
  · rw [Maps.sameKey_ne (lit_ne h)]; simp [h]
theorem come_next {f : Secs} {left : Lit → Bool} {k : Nat} {r : List Int} (h : f k = some r) : upd (come f left) k r = come f fun z => left z && !z.sameKey (.int .i64 (k : Int)) := by
  funext i
  unfold come
  by_cases e : i = k
  · subst e
    rw [upd_same]
    simp [same_key, h]
  · rw [upd_other _ _ e]
    have e2 : ¬ ((i : Int) = (k : Int)) := by omega
    simp [same_key, e2]
theorem come_all (f : Secs) {left : Lit → Bool} (h : ∀ kl, left kl = false) : come f left = f := by
  funext i
  unfold come
  rw [h]
  rfl
/-- An entry of the map: a row at a place. -/
theorem MapIs.entry {w : World} {B : Base} {D : DataW Unit} {f : Secs} (h : MapIs w B D f) {x : Int} {v : Value} {y : DataW Unit × List MemPlace} (hv : RowR v = some y) (ha : ∀ zd, D.atKey (.int .i64 x) zd = y.1) : ∃ (k : Nat) (r : List Int), x = (k : Int) ∧ f k = some r ∧ RowAt w B v r := by
  have hx := h.keys x (Maps.has_true_of_atKey ha)
  obtain ⟨k, rfl⟩ := Int.eq_ofNat_of_zero_le hx
  cases e : f k with
  | none =>
    have := h.none_ k e
    rw [Maps.has_true_of_atKey ha] at this
    cases this
  | some r =>
    obtain ⟨v', g, n, c, h1, h2, h3⟩ := h.rows k r e
    have e2 : y.1 = encS g n c := by rw [← ha .nil, h3]
    obtain ⟨y1, y2⟩ := y
    simp only at e2
    subst e2
    have := rowR_at hv
    subst h2
    subst this
    exact ⟨k, r, rfl, e, h1⟩
theorem MapIs.come0 {w : World} {B : Base} {D : DataW Unit} {f : Secs} (h : MapIs w B D f) : come f (Maps.has D) = noSecs := by
  funext k
  unfold come noSecs
  by_cases e : Maps.has D (.int .i64 (k : Int)) = true
  · rw [if_pos e]
  · rw [if_neg e]
    cases e2 : f k with
    | none => rfl
    | some r =>
      obtain ⟨v, g, n, c, -, -, h3⟩ := h.rows k r e2
      exact absurd (Maps.has_true_of_atKey h3) e
/-- A block of another make turns: the disk stays. -/
theorem BoxOf.aside {w w' : World} {B : Base} {g N : Nat} {d : Dk} {s : Spot} (h : BoxOf w B g d N s) {r : Nat} (hr : ∀ o : Obj, w.heap[r]? = some o → (∀ es c, o ≠ .map es c) ∧ ∀ cs t fr, o ≠ .cells cs t fr) (hg : w.grownBy w' (some r)) : BoxOf w' B g d N s := by
  have hb : ∀ (b : Nat) (o : Obj), w.heap[b]? = some o → ((∃ es c, o = .map es c) ∨ ∃ cs t fr, o = .cells cs t fr) → w'.heap[b]? = w.heap[b]? := fun b o e ho => hg.block b (lt_of_block e) fun e2 => by
    injection e2 with e2
    subst e2
    obtain ⟨h1, h2⟩ := hr o e
    rcases ho with ⟨es, c, rfl⟩ | ⟨cs, t, fr, rfl⟩
    · exact h1 _ _ rfl
    · exact h2 _ _ _ rfl
  obtain ⟨es1, k1, o1⟩ := h.sbObj
  obtain ⟨es2, k2, o2⟩ := h.nbObj
  have keep : ∀ v r, RowAt w B v r → RowAt w' B v r := fun v r hx => hx.keep fun b hb' => by
    obtain ⟨cur, e, -⟩ := hx.block b hb'
    exact hb b _ e (.inr ⟨_, _, _, rfl⟩)
  exact { h with
    box := (hb g _ h.box (.inr ⟨_, _, _, rfl⟩)).trans h.box
    mapS := owns_keep h.mapS (hb _ _ o1 (.inl ⟨_, _, rfl⟩))
    mapN := owns_keep h.mapN (hb _ _ o2 (.inl ⟨_, _, rfl⟩))
    isS := h.isS.keep keep
    isN := h.isN.keep keep
    wait := row_keepW h.wait fun b hb' => by
      obtain ⟨cur, e, -⟩ := h.wvObj b hb'
      exact hb b _ e (.inr ⟨_, _, _, rfl⟩)
    rows := fun i p v e1 e2 => keep _ _ (h.rows i p v e1 e2) }
theorem ranges_obj {w : World} {b r n cnt : Nat} {D : DataW Unit} {left : Lit → Bool} (h : w.ranges Tryd.prog 3 RowR b r n D left cnt) : ∃ o, w.heap[r]? = some o ∧ TB o := by
  obtain ⟨es, clock, since, seen, c0, -, -, -, -, hr, -⟩ := h
  exact ⟨_, hr, trivial⟩
theorem ranges_iter {w : World} {b r n cnt : Nat} {D : DataW Unit} {left : Lit → Bool} (h : w.ranges Tryd.prog 3 RowR b r n D left cnt) : ∀ o : Obj, w.heap[r]? = some o → (∀ es c, o ≠ .map es c) ∧ ∀ cs t fr, o ≠ .cells cs t fr := by
  obtain ⟨es, clock, since, seen, c0, -, -, -, -, hr, -⟩ := h
  intro o e
  rw [hr] at e
  injection e with e
  subst e
  exact ⟨fun _ _ h => (by cases h), fun _ _ _ h => (by cases h)⟩
set_option maxHeartbeats 4000000 in
theorem crash_any (h g : Nat) (la : Option Addr) (n c : Nat) (bs : List Bool) (w : World) (B : Base) (N : Nat) (d : Dk) (hh : w.heap[h]? = some (.cells #[.pointer (some ⟨g, 0, none⟩)] 79)) (hb : BoxAt w B g d N) (hin : InK w B.lo la bs) (hn : bs.length = n) (hn2 : n ≤ 140737488355328) (hN : N ≤ 1099511627776) :
    Calls Tryd.prog 33 #[.pointer (some ⟨h, 0, none⟩), .slice la n c] w fun e w' => e = .returned (.tuple #[]) ∧ BoxAt w' B g (d.crash bs) N ∧ Turns TB B.lo w w' := by
  obtain ⟨hok, s, hb⟩ := hb
  obtain ⟨q0, q1, q2, q3, q4, q5, q6, q7⟩ := boxC_get d s.sb s.nb s.wv
  have c3 := (hb.cells 3).trans q3
  have h0 : w.cell? ⟨h, 0, none⟩ = some (.pointer (some ⟨g, 0, none⟩)) := row_cells hh 0
  obtain ⟨a, cw, ew, -⟩ := hb.wform
  have hm := hb.many
  have hnw : d.wait.length ≤ 1099511627776 := by have := hb.numS; omega
  have HB := Lib.hid (And.intro hb (And.intro hok (And.intro hin (And.intro hn ew))))
  rw [ew] at c3
  clear q0 q1 q2 q3 q4 q5 q6 q7 hb hok hin hn ew
  go_enter Tryd.func33, Tryd.ntmps33
  go_wp2_with fail
  go_loopw [5, 6, 18] (fun _ _ i wr => ∃ k : Nat, k ≤ d.wait.length ∧ i = .int .i64 (k : Int) ∧ Hid (∃ s', BoxOf wr B g (d.kept bs k) (N + k) s' ∧ s'.wv = s.wv ∧ s'.nS ≤ s.nS + k ∧ s'.nN = s.nN ∧ Turns TB B.lo w wr)) (fun _ _ i _ => d.wait.length - (intOf i).toNat)
  case atStart => exact ⟨0, by omega, rfl, s, by simpa [Dk.kept, stay, over] using HB.out.1, rfl, Nat.le_refl _, rfl, Turns.refl _ _ _⟩
  case round =>
    obtain ⟨k, hk, rfl, HK⟩ := hrel
    obtain ⟨s', HK⟩ := HK.out
    have HK := Lib.hid HK
    by_cases hlt : k < d.wait.length
    · obtain ⟨p, hp⟩ : ∃ p, d.wait[k]? = some p := ⟨_, List.getElem?_eq_getElem hlt⟩
      obtain ⟨a', c', ew', hel⟩ := HK.out.1.wform
      obtain ⟨ga, v, ea, hvs, hrow, hgl, e1, e2⟩ := hel k p hp
      subst ea
      have ewa : a = some ⟨ga, 0, none⟩ ∧ cw = c' := by
        have := ew'.symm.trans (HK.out.2.1.trans HB.out.2.2.2.2)
        injection this with t1 t2 t3
        exact ⟨t1.symm, t3.symm⟩
      obtain ⟨rfl, rfl⟩ := ewa
      obtain ⟨b, nv, cv, rfl⟩ := find_row hrow
      have HP := Lib.hid (And.intro hp hrow)
      rw [Nat.mul_comm 2 k] at e1 e2
      have HM := Lib.hid (show s'.nS < maxLen by have := HK.out.1.numS; unfold maxLen; have : (d.kept bs k).wait.length = d.wait.length := rfl; omega)
      have hkm : p.1 < d.many := (HB.out.2.1.rowW p (List.mem_of_getElem? hp)).2
      have HKK := Lib.hid (key_at (k := (p.1 : Int)) (by unfold okInt; omega))
      have h3 := (HK.out.1.cells 1).trans (boxC_get (d.kept bs k) s'.sb s'.nb s'.wv).2.1
      have hgl2 := HK.out.1.lt
      have XB := Lib.hid (below1 wr (.cells #[.int .i64 (p.1 : Int), .slice (some ⟨b, 0, none⟩) nv cv] 100))
      have XT := Lib.hid (Turns.of_below (T := TB) (B := B.lo) (Nat.le_trans HK.out.1.gB (Nat.le_of_lt hgl2)) XB.out)
      clear hel hvs hp hrow ew'
      by_cases hkn : k < n
      · obtain ⟨x, hx⟩ : ∃ x, bs[k]? = some x := ⟨_, List.getElem?_eq_getElem (by rw [HB.out.2.2.2.1]; exact hkn)⟩
        obtain ⟨bb, ob, rfl, hbB, hcb0⟩ := HB.out.2.2.1 k x hx
        have hcb := (XT.out.below.cell (p := ⟨bb, ob + k, none⟩) hbB).trans ((HK.out.2.2.2.2.below.cell (p := ⟨bb, ob + k, none⟩) hbB).trans hcb0)
        clear hcb0
        have y1 : decide ((k : Int) < (n : Int)) = true := decide_eq_true (by omega)
        have y2 : decide (k < n) = true := decide_eq_true hkn
        cases x
        · go_wp2_with fail
          go_roundw
          case rel => exact ⟨k + 1, by omega, by go_num, s', by rw [Dk.kept_no d HP.out.1 (by rw [hx]; simp)]; exact ((HK.out.1.then_ XB.out).upTo (by omega)), HK.out.2.1, by have := HK.out.2.2.1; omega, HK.out.2.2.2.1, HK.out.2.2.2.2.trans XT.out⟩
          case measure => simp [intOf]; omega
        · go_wp2_with fail
          have x0 := heap_alloc_new wr (.cells #[.int .i64 (p.1 : Int), .slice (some ⟨b, 0, none⟩) nv cv] 100)
          have h3' := (XB.out.cell (p := ⟨g, 1, none⟩) hgl2).trans h3
          generalize hw1 : wr.alloc (.cells #[.int .i64 (p.1 : Int), .slice (some ⟨b, 0, none⟩) nv cv] 100) = w1 at *
          have x1 : w1.cell? ⟨wr.heap.size, 0, none⟩ = some (.int .i64 (p.1 : Int)) := row_cells x0 0
          have x2 : w1.cell? ⟨wr.heap.size, 1, none⟩ = some (.slice (some ⟨b, 0, none⟩) nv cv) := row_cells x0 1
          generalize hgb : wr.heap.size = gb at x1 x2 ⊢
          have HGB := Lib.hid (And.intro hw1 hgb)
          have HK1 := Lib.hid (HK.out.1.then_ XB.out)
          have HX := Lib.hid hx
          clear hw1 hgb x0 h3 e1 e2 hx hcb
          go_still_tail 8, (by kernel_rfl)
          change wpList _ _ _ _ _ w1.drew
          go_wp2_with (refine wpList_mapUpdate_own _ rfl _ _ _ 74 rfl 3 22 keyK Tryd.underlying74 RowR s'.sb s'.nS s'.DS rfl HK1.out.mapS.drew HM.out _ _ (.int .i64 (p.1 : Int)) rfl rfl HKK.out (encS b nv cv) [] (rowR_mk b nv cv) ?_; intro w2 hown hgr; have H2 := Lib.hid (HK1.out.lay p.1 (HP.out.2.then_ XB.out) rfl hown ⟨hgr.os, hgr.tape, hgr.output, hgr.size, hgr.block⟩); clear hown hgr)
          go_roundw
          case rel =>
            have h2 := H2.out
            rw [Dk.kept_yes d HP.out.1 HX.out] at h2
            exact ⟨k + 1, by omega, by go_num, _, h2.1, HK.out.2.1, by have := HK.out.2.2.1; show s'.nS + 1 ≤ _; omega, HK.out.2.2.2.1, (HK.out.2.2.2.2.trans XT.out).trans h2.2⟩
          case measure => simp [intOf]; omega
      · have hx : bs[k]? ≠ some true := by rw [List.getElem?_eq_none (by rw [HB.out.2.2.2.1]; omega)]; simp
        have y1 : decide ((k : Int) < (n : Int)) = false := decide_eq_false (by omega)
        have y2 : decide (k < n) = false := decide_eq_false hkn
        have HX := Lib.hid hx
        clear hx
        go_wp2_with fail
        go_roundw
        case rel => exact ⟨k + 1, by omega, by go_num, s', by rw [Dk.kept_no d HP.out.1 HX.out]; exact ((HK.out.1.then_ XB.out).upTo (by omega)), HK.out.2.1, by have := HK.out.2.2.1; omega, HK.out.2.2.2.1, HK.out.2.2.2.2.trans XT.out⟩
        case measure => simp [intOf]; omega
    · have hkn : k = d.wait.length := by omega
      subst hkn
      have H1 := Lib.hid (HK.out.1.emptied (N' := N) (by have := HK.out.2.2.1; have := HB.out.1.numS; omega) (by rw [HK.out.2.2.2.1]; exact HB.out.1.numN))
      have H2 := H1.out.1.renewed
      have hsz : (wr.setCell ⟨g, 3, none⟩ (.slice none 0 0)).heap.size = wr.heap.size := by simp
      rw [hsz, World.setCell_alloc_past _ _ _ _ (by rw [hsz]; exact HK.out.1.lt)] at H2
      have H2 := Lib.hid H2
      clear hsz
      have c1' := (HK.out.1.cells 1).trans (boxC_get (d.kept bs d.wait.length) s'.sb s'.nb s'.wv).2.1
      have c2' := (HK.out.1.cells 2).trans (boxC_get (d.kept bs d.wait.length) s'.sb s'.nb s'.wv).2.2.1
      have f2' := HK.out.1.frozen 2
      have c3' := (HK.out.1.cells 3).trans (boxC_get (d.kept bs d.wait.length) s'.sb s'.nb s'.wv).2.2.2.1
      have f3' := HK.out.1.frozen 3
      have hgl := HK.out.1.lt
      have hmm := @run_makeMap Tryd.prog
      go_wp2_with (at_range; go_loud (refine wpList_range_own _ rfl _ 74 rfl 3 22 keyK Tryd.underlying74 RowR s'.sb s'.nS s'.DS rfl H2.out.1.mapS ?_); intro w4 hrg0 hg0 hs0)
      obtain ⟨W4, hW4⟩ : ∃ W4, W4 = ((wr.setCell ⟨g, 3, none⟩ (.slice none 0 0)).setCell ⟨g, 2, none⟩ (.map (some wr.heap.size))).alloc (.map #[] 0) := ⟨_, rfl⟩
      rw [← hW4] at hrg0 hg0 hs0 H2
      have hbel0 : Below W4.heap.size W4 w4 := (Below.refl _ _).grown hg0 (Nat.le_refl _) (fun k e => by cases e)
      have H4 := Lib.hid (H2.out.1.then_ hbel0)
      have HT4 := Lib.hid (H2.out.2.trans (Turns.of_below (T := TB) (Nat.le_trans H2.out.1.gB (Nat.le_of_lt H2.out.1.lt)) hbel0))
      have hr1 : W4.heap.size = wr.heap.size + 1 := by rw [hW4]; simp
      have hrB : B.lo ≤ wr.heap.size + 1 := by have := H2.out.1.gB; have := H2.out.1.lt; omega
      rw [hr1] at hrg0
      generalize wr.heap.size + 1 = r at *
      have H6 : Hid (BoxOf w4 B g { d.kept bs d.wait.length with wait := [], now := come (over d.safe (stay d.wait bs)) (Maps.has s'.DS) } N { s' with wv := .slice none 0 0, vs := [], nb := wr.heap.size, nN := 0, DN := .map [] }) := Lib.hid (by
        have h4 := H4.out
        have e := h4.isS.come0
        have e2 : (d.kept bs d.wait.length).safe = over d.safe (stay d.wait bs) := by unfold Dk.kept; rw [List.take_of_length_le (Nat.le_refl _)]
        replace e : come (d.kept bs d.wait.length).safe (Maps.has s'.DS) = noSecs := e
        rw [e2] at e
        rw [e]
        exact h4)
      have HR0 := Lib.hid hrg0
      have HS0 : Hid (Maps.size s'.DS ≤ N) := Lib.hid (Nat.le_trans hrg0.owns.size_le (by have := HK.out.2.2.1; have := HB.out.1.numS; omega))
      have HT6 := Lib.hid (HK.out.2.2.2.2.trans (H1.out.2.trans HT4.out))
      have HRB := Lib.hid hrB
      clear hrB hrg0 hg0 hs0 hW4 hbel0 c1' c2' f2' c3' f3' hgl hr1
      go_loopw [7, 8] (fun _ _ wx => Hid (∃ left cnt s2, BoxOf wx B g { d.kept bs d.wait.length with wait := [], now := come (over d.safe (stay d.wait bs)) left } N s2 ∧ wx.ranges Tryd.prog 3 RowR s'.sb r s'.nS s'.DS left cnt ∧ s2.sb = s'.sb ∧ s2.DS = s'.DS ∧ s2.nN + cnt ≤ N ∧ Turns TB B.lo w4 wx)) (fun _ _ wx => wx.rangeLeft s'.sb r)
      case atStart => exact ⟨_, _, _, H6.out, HR0.out, rfl, rfl, by have := HS0.out; show 0 + _ ≤ N; omega, Turns.refl _ _ _⟩
      case round =>
        obtain ⟨left, cnt, s2, HL⟩ := hrel.out
        have HL := Lib.hid HL
        have hrg := HL.out.2.1
        go_wp2_with (at_next; refine wpList_next_ranges _ rfl _ rfl 3 keyK RowR (Value.int .i64) (fun v : Value => v) (fun key kl hkey => by { obtain ⟨x, rfl, _⟩ := Maps.keyOf_int_inv Tryd.underlying3 hkey; exact ⟨x, rfl⟩ }) (fun v y hv => ⟨v, rfl⟩) s'.sb r s'.nS s'.DS left cnt rfl hrg ?_ ?_)
        · intro hc0 hl0
          have HE := HL.out.1
          rw [come_all _ hl0] at HE
          have HE := Lib.hid HE
          have k4 := HE.out.cells 4
          have k7 := HE.out.cells 7
          have g4 := HE.out.frozen 4
          have g7 := HE.out.frozen 7
          replace k4 : wr.cell? ⟨g, 4, none⟩ = some (.bool d.armed) := k4
          replace k7 : wr.cell? ⟨g, 7, none⟩ = some (.bool d.down) := k7
          go_wp2_with fail
          have h1 := set_heap (i := 4) HE.out.box (.bool false)
          have h2 := set_heap (i := 7) h1 (.bool false)
          have e2 : (d.kept bs d.wait.length).safe = over d.safe (stay d.wait bs) := by unfold Dk.kept; rw [List.take_of_length_le (Nat.le_refl _)]
          have ht := ((Turns.refl TB B.lo wr).setCell (p := ⟨g, 4, none⟩) HE.out.box (TB_box _ _) HE.out.gB (.bool false)).setCell (p := ⟨g, 7, none⟩) h1 (TB_box _ _) HE.out.gB (.bool false)
          exact ⟨rfl, .tuple #[], results_void rfl _ _, rfl, ⟨Dk.crash_ok HB.out.2.1 bs, s2, HE.out.turn (d' := d.crash bs) (fun x _ hne => by rw [set_off _ _ hne, set_off _ _ hne]) h2 e2.symm rfl rfl rfl HE.out.acts⟩, (HT6.out.trans HL.out.2.2.2.2.2).trans ht⟩
        · intro x cv kl y0 ps w5 cnt' hkey hlk hv hat hrg1 hlt1 hg1 hs1 hen
          obtain ⟨x', ex, rfl, -⟩ := Maps.keyOf_int_inv Tryd.underlying3 hkey
          injection ex with _ ex
          subst ex
          have H5 := Lib.hid (HL.out.1.aside (ranges_iter hrg) hg1)
          obtain ⟨k, rr, rfl, hf, hrow⟩ := H5.out.isS.entry hv (by rw [HL.out.2.2.2.1]; exact hat)
          have HT5 := Lib.hid ((Turns.refl TB B.lo wr).grown hg1 (fun k e => by
            injection e with e
            subst e
            exact ⟨HRB.out, ranges_obj hrg⟩) (Nat.le_trans HL.out.1.gB (Nat.le_of_lt HL.out.1.lt)))
          obtain ⟨gb, nb, cb, rfl⟩ := find_row hrow
          have hy : y0 = encS gb nb cb := by
            rcases rowR_inv hv with ⟨e, -⟩ | ⟨g', n', c', e, e2⟩
            · cases e
            · injection e with e3 e4 e5
              injection e3 with e3
              injection e3 with e3
              subst e3 e4 e5
              injection e2
          subst hy
          have HRG := Lib.hid hrg1
          have HF := Lib.hid (And.intro hf (And.intro hrow (And.intro hlt1 hlk)))
          have c25 := (H5.out.cells 2).trans (boxC_get _ s2.sb s2.nb s2.wv).2.2.1
          have HKK := Lib.hid hkey
          have HM := Lib.hid (show s2.nN < maxLen by have := HL.out.2.2.2.2.1; unfold maxLen; omega)
          have HLL := Lib.hid hrg
          clear hrg1 hf hrow hlt1 hkey hv hat hg1 hs1 hlk hrg
          go_wp2_with (refine wpList_mapUpdate_own _ rfl _ _ _ 74 rfl 3 22 keyK Tryd.underlying74 RowR s2.nb s2.nN s2.DN rfl H5.out.mapN HM.out _ _ (.int .i64 (k : Int)) rfl rfl HKK.out (encS gb nb cb) [] (rowR_mk gb nb cb) ?_; intro w6 hown hgr; have H6 := Lib.hid (And.intro (H5.out.half k HF.out.2.1 rfl hown hgr) hgr); clear hown hgr)
          have kept6 := HRG.out.kept H6.out.2 (fun e => H5.out.ne (by injection e with e; rw [HL.out.2.2.1]; exact e)) (fun e => by
            injection e with e
            obtain ⟨es, c, o⟩ := H5.out.nbObj
            rw [← e] at o
            exact ((ranges_iter HRG.out) _ o).1 _ _ rfl)
          go_roundw
          case rel =>
            have h6 := H6.out.1
            have e2 : (d.kept bs d.wait.length).safe = over d.safe (stay d.wait bs) := by unfold Dk.kept; rw [List.take_of_length_le (Nat.le_refl _)]
            have hf : over d.safe (stay d.wait bs) k = some rr := by rw [← e2]; exact HF.out.1
            have h7 : BoxOf w6 B g { d.kept bs d.wait.length with wait := [], now := upd (come (over d.safe (stay d.wait bs)) left) k rr } (N + 1) _ := h6.1
            rw [come_next hf] at h7
            have hn6 : s2.nN + 1 + cnt' ≤ N := by have := HL.out.2.2.2.2.1; have := HF.out.2.2.1; omega
            exact ⟨_, cnt', _, { h7 with numS := HL.out.1.numS, numN := by show s2.nN + 1 ≤ N; omega }, kept6, HL.out.2.2.1, HL.out.2.2.2.1, hn6, (HL.out.2.2.2.2.2.trans HT5.out).trans h6.2⟩
          case measure =>
            rw [kept6.left_eq, HLL.out.left_eq]
            exact HF.out.2.2.1
end Go.Proofs.YtophhnolnlbecaaDoor
namespace Go.Proofs.YtophhnolnlbecaaDoor
open Go.RowKit
set_option maxRecDepth 100000

/-- A step, with where its rows lie. -/
structure OpD where
  act : Int
  n : Int
  kind : Int
  ba : Option Addr
  bc : Nat
  bl : List Int
  more : Bool
  ka : Option Addr
  kc : Nat
  kl : List Bool
def OpD.cells (o : OpD) : List Value := [.int .i64 o.act, .int .i64 o.n, .int .i64 o.kind, .slice o.ba o.bl.length o.bc, .bool o.more, .slice o.ka o.kl.length o.kc]
structure OpD.In (W : World) (o : OpD) : Prop where
  act : okInt o.act
  n : okInt o.n
  kind : okInt o.kind
  inB : InB W o.ba o.bl
  byte : isB o.bl
  bLen : o.bl.length ≤ o.bc ∧ o.bc ≤ 140737488351232
  bNil : o.ba = none → o.bc = 0
  inK : InK W W.heap.size o.ka o.kl
  kLen : o.kl.length ≤ o.kc ∧ o.kc ≤ 140737488351232
/-- A row of them. -/
def InO (w : World) (a : Option Addr) (l : List OpD) : Prop := ∀ i x, l[i]? = some x → ∃ b o, a = some ⟨b, o, none⟩ ∧ ∀ j c, x.cells[j]? = some c → w.cell? ⟨b, o + i * 6 + j, none⟩ = some c
theorem InO.then_ {w w' : World} {a : Option Addr} {l : List OpD} (h : InO w a l) (hb : Below w.heap.size w w') : InO w' a l := fun i x hx => by
  obtain ⟨b, o, e, hc⟩ := h i x hx
  exact ⟨b, o, e, fun j c hj => (hb.cell (p := ⟨b, o + i * 6 + j, none⟩) (cell_lt (hc j c hj))).trans (hc j c hj)⟩
theorem OpD.In.nil' {W : World} {o : OpD} (h : o.In W) : o.ba = none → o.bc = 0 ∧ o.bl = [] := fun e => ⟨h.bNil e, List.eq_nil_of_length_eq_zero (by have := h.bLen.1; have := h.bNil e; omega)⟩
/-- Five cells. -/
def cells5 (f : Nat → Value) : Array Value := #[f 0, f 1, f 2, f 3, f 4]
theorem cells5_get (f : Nat → Value) {k : Nat} (h : k < 5) : (cells5 f)[k]? = some (f k) := by
  match k, h with
  | 0, _ => rfl
  | 1, _ => rfl
  | 2, _ => rfl
  | 3, _ => rfl
  | 4, _ => rfl
  | k + 5, h => omega
theorem cells5_at {w : World} {g : Nat} {t : TypeId} {f : Nat → Value} (h : w.heap[g]? = some (.cells (cells5 f) t)) {k : Nat} (hk : k < 5) : w.cell? ⟨g, k, none⟩ = some (f k) ∧ w.frozen? ⟨g, k, none⟩ = false := by
  refine ⟨(row_cells h k).trans (cells5_get f hk), ?_⟩
  simp [World.frozen?, h]
theorem cells5_set {w : World} {g : Nat} {t : TypeId} {f : Nat → Value} (h : w.heap[g]? = some (.cells (cells5 f) t)) {k : Nat} (hk : k < 5) (v : Value) : (w.setCell ⟨g, k, none⟩ v).heap[g]? = some (.cells (cells5 fun i => if i = k then v else f i) t) := by
  have e : (w.setCell ⟨g, k, none⟩ v).heap[g]? = some (.cells ((cells5 f).setIfInBounds k v) t) := by
    simp [World.setCell, Array.getElem?_modify, h]
  rw [e]
  match k, hk with
  | 0, _ => rfl
  | 1, _ => rfl
  | 2, _ => rfl
  | 3, _ => rfl
  | 4, _ => rfl
  | k + 5, h => omega
/-- A disk stays where blocks of other makes turn. -/
theorem BoxAt.turnsG {w w' : World} {B : Base} {B' g N : Nat} {d : Dk} {T : Obj → Prop} (h : BoxAt w B g d N) (ht : Turns T B' w w') (n1 : ∀ cur, ¬ T (.cells cur 77)) (n2 : ∀ cur, ¬ T (.cells cur 100)) (n3 : ∀ cur, ¬ T (.cells cur 5)) (n4 : ∀ es c, ¬ T (.map es c)) : BoxAt w' B g d N := by
  obtain ⟨k, s, h⟩ := h
  refine ⟨k, s, { h with
    box := ht.block _ _ h.box (n1 _)
    mapS := ?_
    mapN := ?_
    isS := h.isS.keep fun v r hr => hr.turns ht n3
    isN := h.isN.keep fun v r hr => hr.turns ht n3
    wait := row_keepW h.wait fun b hb => by
      obtain ⟨cur, h1, -, -⟩ := h.wvObj b hb
      exact (ht.block b _ h1 (n2 cur)).trans h1.symm
    rows := fun i p v a b => (h.rows i p v a b).turns ht n3 }⟩
  · obtain ⟨es, c, e⟩ := h.sbObj
    exact owns_keep h.mapS ((ht.block _ _ e (n4 _ _)).trans e.symm)
  · obtain ⟨es, c, e⟩ := h.nbObj
    exact owns_keep h.mapN ((ht.block _ _ e (n4 _ _)).trans e.symm)
theorem and7 (n : Int) : bits .and .i64 n 7 = n % 8 := by
  have key : (BitVec.ofInt 64 n &&& BitVec.ofInt 64 7).toNat = (n % 8).toNat := by
    rw [BitVec.toNat_and, show (BitVec.ofInt 64 7).toNat = 2 ^ 3 - 1 by decide, Nat.and_two_pow_sub_one_eq_mod, BitVec.toNat_ofInt]
    omega
  show IntKind.i64.wrap ((BitVec.ofInt 64 n &&& BitVec.ofInt 64 7).toNat : Nat) = _
  rw [key, IntKind.wrap_i64]
  omega
end Go.Proofs.YtophhnolnlbecaaDoor
