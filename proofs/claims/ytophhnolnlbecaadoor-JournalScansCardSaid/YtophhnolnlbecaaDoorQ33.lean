/- Appends on a disk that has power, and on one that loses it: plain words. Two journals on a disk that has power: where JournalGrows stands. Bytes as an argument, with the bulk that they are. No statement is proved here. -/
import Derived.Test.YtophhnolnlbecaaDoorQ26
import Derived.Test.YtophhnolnlbecaaDoorQ32
namespace Go.Proofs.YtophhnolnlbecaaDoor
open Go.RowKit
set_option maxRecDepth 100000

theorem wrX_live {b0 : Nat} {X : Nat → List Int} (hX : ∀ q, (X q).length = 512) : ∀ (c q : Nat) (d : Dk), d.live → b0 + q + c ≤ d.many → (wrX b0 X c q d).1 = 0 ∧ (wrX b0 X c q d).2.live
  | 0, _, _, h, _ => ⟨rfl, h⟩
  | c + 1, q, d, h, hm => by
    have hw := h.write (k := b0 + q) (by omega) (hX q)
    rw [wrX_good hw.1, hw.2]
    exact wrX_live hX c (q + 1) _ (h.put (by omega) (hX q)) (by show _ ≤ d.many; omega)
/-- What is refused on the way tells that the power is gone. -/
theorem write_down {d : Dk} {k : Nat} {l : List Int} (hk : k < d.many) (hl : l.length = 512) (h : d.writeE (k : Int) l ≠ 0) : (d.write (k : Int) l).down = true := by
  have hb : d.badW (k : Int) l.length = false := by unfold Dk.badW; rw [hl, decide_eq_true (show 0 ≤ (k : Int) ∧ (k : Int) < d.many by omega)]; rfl
  by_cases hdn : d.down = true
  · unfold Dk.write
    rw [if_pos hdn]
    exact hdn
  · have hdf : d.down = false := by simpa using hdn
    cases hg : d.goes with
    | false =>
      refine absurd ?_ h
      unfold Dk.writeE Dk.errA
      rw [hdf, hb, hg]
      rfl
    | true =>
      have ha : d.acted = { d with down := true } := by unfold Dk.acted; rw [hg]; rfl
      unfold Dk.write
      rw [hdf, hb, ha]
      cases d.does <;> rfl
theorem wrX_down {b0 : Nat} {X : Nat → List Int} (hX : ∀ q, (X q).length = 512) : ∀ (c q : Nat) (d : Dk), b0 + q + c ≤ d.many → (wrX b0 X c q d).1 ≠ 0 → (wrX b0 X c q d).2.down = true
  | 0, _, _, _, h => absurd rfl h
  | c + 1, q, d, hm, h => by
    by_cases hw : d.writeE ((b0 + q : Nat) : Int) (X q) = 0
    · rw [wrX_good hw] at h ⊢
      exact wrX_down hX c (q + 1) _ (by rw [Dk.write_many]; omega) h
    · rw [wrX_bad hw]
      exact write_down (by omega) (hX q) hw
section
variable {J : JS} {d : Dk} {l : List Int}
theorem JS.ends (ho : J.ok d) (hl : (l.length : Int) ≤ J.room) : 8 * J.fr + jFst J.e J.rs + (jEnd J.e J.rs l - jFst J.e J.rs) ≤ d.many := by
  have h1 := JS.strm (d := d) hl
  have h2 := jFst_lt J.e J.rs l
  have h3 : jEnd J.e J.rs l ≤ 8 * J.many := by unfold jEnd; omega
  have h4 := ho.fits
  omega
theorem JS.app_live (ho : J.ok d) (hv : d.live) (hl : (l.length : Int) ≤ J.room) : (J.app l d).1 = 0 ∧ (J.app l d).2.live := wrX_live (fun q => secL_len _ _ _) _ _ _ hv (JS.ends ho hl)
theorem JS.app_down (ho : J.ok d) (hl : (l.length : Int) ≤ J.room) (h : (J.app l d).1 ≠ 0) : (J.app l d).1 = 5 ∧ (J.app l d).2.down = true := by
  refine ⟨?_, wrX_down (fun q => secL_len _ _ _) _ _ _ (JS.ends ho hl) h⟩
  obtain ⟨j, -, -, -, -, h5, -⟩ := wrX_run (b0 := 8 * J.fr) (X := secL J.e (strmR J.e J.rs l)) (fun q => secL_len _ _ _) (jEnd J.e J.rs l - jFst J.e J.rs) (jFst J.e J.rs) d (JS.ends ho hl)
  rcases h5 with h5 | h5
  · exact absurd h5 h
  · exact h5
theorem JS.app_many (J : JS) (l : List Int) (d : Dk) : (J.app l d).2.many = d.many := jApp_many _ _ _ _ _
theorem JS.app_allB (ho : J.ok d) (h : d.allB) (hl : isB l) : (J.app l d).2.allB := jApp_allB h (fun r hr => (ho.rows r hr).1) hl
theorem JS.app_now (ho : J.ok d) (hl : (l.length : Int) ≤ J.room) (h0 : (J.app l d).1 = 0) {k : Nat} (hk : k < 8 * J.fr ∨ 8 * J.fr + 8 * J.many ≤ k) : (J.app l d).2.now k = d.now k := by
  obtain ⟨j, -, -, -, -, -, h6⟩ := jApp_run (b0 := 8 * J.fr) (n := 8 * J.many) (e := J.e) (rs := J.rs) (d := d) l ho.fits (JS.strm (d := d) hl)
  have h7 := (h6 h0).2.2 k
  have h1 := JS.strm (d := d) hl
  have h2 := jFst_lt J.e J.rs l
  have h3 : jEnd J.e J.rs l ≤ 8 * J.many := by unfold jEnd; omega
  unfold JS.app
  rw [h7, if_neg (by omega)]
theorem JN.app (hN : JN (8 * J.fr) (8 * J.many) J.e J.rs d) (ho : J.ok d) (hl : (l.length : Int) ≤ J.room) (h0 : (J.app l d).1 = 0) : JN (8 * J.fr) (8 * J.many) J.e (J.rs ++ [l]) (J.app l d).2 := hN.append l ho.fits (JS.strm (d := d) hl) h0
/-- All of it is read. -/
theorem JN.area (hN : JN (8 * J.fr) (8 * J.many) J.e J.rs d) (ho : J.ok d) (hok : d.ok) (hup : d.down = false) (hm : 1 ≤ J.many) : jRdE d J.fr J.many J.e = 0 ∧ jRdL d J.fr J.many J.e = J.rs := by
  have hE : jRdE d J.fr J.many J.e = 0 := by
    have h1 := ho.fits
    unfold jRdE
    rw [if_pos ⟨ho.ep, by omega, by omega, by omega, by omega⟩, hup]
    rfl
  refine ⟨hE, ?_⟩
  unfold jRdL
  rw [if_pos hE]
  have h := hN.read hok ho.ep ho.few.2 (fun r hr => (ho.rows r hr).2) (by have := ho.len; unfold JS.len at this; omega)
  have e1 : ((J.many : Int)).toNat = J.many := by omega
  have e2 : ((J.fr : Int)).toNat = J.fr := by omega
  unfold jArea
  rw [e1, e2, h]
end
theorem new_look (n k : Nat) : (Dk.new n).look k = zeroRow := rfl
end Go.Proofs.YtophhnolnlbecaaDoor
namespace Go.Proofs.YtophhnolnlbecaaDoor
open Go.RowKit
set_option maxRecDepth 100000

/-- Blocks of slices alone have turned. -/
def TS : Obj → Prop
  | .cells _ t _ => t = 22
  | _ => False
theorem TS_no {t : TypeId} (h : t ≠ 22) (cur : Array Value) : ¬ TS (.cells cur t) := h
theorem TS_TB (cur : Array Value) (fr : Nat × Nat) : ¬ TB (.cells cur 22 fr) := by
  show ¬ ((22 : Nat) = 77 ∨ (22 : Nat) = 100)
  decide
theorem hand_TB {cur : Array Value} {fr : Nat × Nat} : ¬ TB (.cells cur 79 fr) := by
  show ¬ ((79 : Nat) = 77 ∨ (79 : Nat) = 100)
  decide
theorem Put.jturns {W w w' : World} {B B' : Nat} {v : Value} {rs : List (Value × List Int)} {F : List Nat} (h : Put W w B v rs) (ht : JTurns F B' w w') (hF : ∀ y, v.ownBlock = some y → y ∉ F) : Put W w' B v rs := h.keep fun g hg => by
  obtain ⟨cur, hc⟩ := h.obj g hg
  exact (ht.block g _ hc (TS_TB _ _) (hF g hg)).trans hc.symm
structure JGo (Jn : World → List Nat → Nat → JS → Prop) (W w : World) (lo h N : Nat) (d : Dk) (F1 F2 : List Nat) (a1 a2 : Nat) (J1 J2 : JS) (p1 p2 : Value) (l1 l2 : List (Value × List Int)) : Prop where
  box : BoxAt w ⟨lo, fun y => y ∈ F1 ∨ y ∈ F2⟩ J1.g d N
  hand : w.heap[h]? = some (.cells #[.pointer (some ⟨J1.g, 0, none⟩)] 79)
  gg : J2.g = J1.g
  one : Jn w F1 a1 J1
  two : Jn w F2 a2 J2
  apart : ∀ b ∈ F1, b ∉ F2
  nh : h ∉ F1 ∧ h ∉ F2
  below : Below W.heap.size W w
  hlo : W.heap.size ≤ lo
  live : d.live
  allB : d.allB
  ok1 : J1.ok d
  ok2 : J2.ok d
  up1 : J1.dead = false
  up2 : J2.dead = false
  n1 : JN (8 * J1.fr) (8 * J1.many) J1.e J1.rs d
  n2 : JN (8 * J2.fr) (8 * J2.many) J2.e J2.rs d
  away : 8 * J1.fr + 8 * J1.many ≤ 8 * J2.fr ∨ 8 * J2.fr + 8 * J2.many ≤ 8 * J1.fr
  put1 : Put W w lo p1 l1
  put2 : Put W w lo p2 l2
  off1 : ∀ y, p1.ownBlock = some y → y ∉ F1 ∧ y ∉ F2 ∧ p2.ownBlock ≠ some y
  off2 : ∀ y, p2.ownBlock = some y → y ∉ F1 ∧ y ∉ F2
section
variable {Jn : World → List Nat → Nat → JS → Prop} {W w w' : World} {lo h N : Nat} {d : Dk} {F1 F2 : List Nat} {a1 a2 : Nat} {J1 J2 : JS} {p1 p2 : Value} {l1 l2 : List (Value × List Int)}
theorem JGo.swap (s : JGo Jn W w lo h N d F1 F2 a1 a2 J1 J2 p1 p2 l1 l2) : JGo Jn W w lo h N d F2 F1 a2 a1 J2 J1 p2 p1 l2 l1 :=
  { box := by rw [s.gg]; exact s.box.offs fun y hy => .inl hy.symm
    hand := by rw [s.gg]; exact s.hand
    gg := s.gg.symm
    one := s.two
    two := s.one
    apart := fun b h1 h2 => s.apart b h2 h1
    nh := ⟨s.nh.2, s.nh.1⟩
    below := s.below
    hlo := s.hlo
    live := s.live
    allB := s.allB
    ok1 := s.ok2
    ok2 := s.ok1
    up1 := s.up2
    up2 := s.up1
    n1 := s.n2
    n2 := s.n1
    away := s.away.symm
    put1 := s.put2
    put2 := s.put1
    off1 := fun y hy => ⟨(s.off2 y hy).2, (s.off2 y hy).1, fun k => (s.off1 y k).2.2 hy⟩
    off2 := fun y hy => ⟨(s.off1 y hy).2.1, (s.off1 y hy).1⟩ }
theorem JGo.then_ (P : P15J W Jn) (s : JGo Jn W w lo h N d F1 F2 a1 a2 J1 J2 p1 p2 l1 l2) (hb : Below w.heap.size w w') : JGo Jn W w' lo h N d F1 F2 a1 a2 J1 J2 p1 p2 l1 l2 :=
  { s with
    box := s.box.then_ hb
    hand := (hb.block _ (lt_of_block s.hand)).trans s.hand
    one := P.keep s.one fun b k => hb.block b (P.lt s.one b k).2
    two := P.keep s.two fun b k => hb.block b (P.lt s.two b k).2
    below := below_then s.below hb
    put1 := s.put1.then_ hb
    put2 := s.put2.then_ hb }
/-- The first one's row has grown. -/
theorem JGo.grow (P : P15J W Jn) (s : JGo Jn W w lo h N d F1 F2 a1 a2 J1 J2 p1 p2 l1 l2) {p : Value} {l : List (Value × List Int)} (own : Put W w' lo p l) (hg : w.grownBy w' p1.ownBlock) (hw : p.ownBlock = p1.ownBlock ∨ p.ownBlock = some w.heap.size) : JGo Jn W w' lo h N d F1 F2 a1 a2 J1 J2 p p2 l l2 := by
  have hlt := s.box.lt
  have t : Turns TS lo w w' := (Turns.refl TS lo w).grown hg (fun k hk => by
    obtain ⟨cur, hc⟩ := s.put1.obj k hk
    exact ⟨(s.put1.block k hk).1, _, hc, show TS (.cells _ _) from rfl⟩) (Nat.le_of_lt (Nat.lt_of_le_of_lt hlt.1 hlt.2))
  refine { s with box := s.box.turnsG t (TS_no (by decide)) (TS_no (by decide)) (TS_no (by decide)) (fun _ _ h => h), hand := t.block _ _ s.hand (TS_no (by decide) _), one := ?_, two := ?_, below := s.below.trans (t.below.mono s.hlo), put1 := own, put2 := ?_, off1 := ?_ }
  · exact P.keep s.one fun b k => hg.block b (P.lt s.one b k).2 fun e => (s.off1 b e.symm).1 k
  · exact P.keep s.two fun b k => hg.block b (P.lt s.two b k).2 fun e => (s.off1 b e.symm).2.1 k
  · exact s.put2.keep fun b k => hg.block b (s.put2.block b k).2 fun e => (s.off1 b e.symm).2.2 k
  · intro y hy
    rcases hw with hw | hw
    · rw [hw] at hy
      exact s.off1 y hy
    · rw [hw] at hy
      injection hy with hy
      subst hy
      exact ⟨fun k => Nat.lt_irrefl _ (P.lt s.one _ k).2, fun k => Nat.lt_irrefl _ (P.lt s.two _ k).2, fun k => Nat.lt_irrefl _ (s.put2.block _ k).2⟩
/-- An append to the first one. -/
theorem JGo.app (P : P15J W Jn) (s : JGo Jn W w lo h N d F1 F2 a1 a2 J1 J2 p1 p2 l1 l2) {x : Option Addr} {n c : Nat} {l : List Int} (hi : InB w x l) (hB : isB l) (hn : l.length = n) (h1 : n ≤ c) (h2 : c ≤ maxLen) (h3 : x = none → c = 0 ∧ l = []) (hN : N ≤ 549755813888) :
    Calls Tryd.prog 22 #[.pointer (some ⟨a1, 0, none⟩), .slice x n c] w fun en w' => (J1.room < (n : Int) ∧ en = .returned (errV 150) ∧ JGo Jn W w' lo h N d F1 F2 a1 a2 J1 J2 p1 p2 l1 l2) ∨
      ((n : Int) ≤ J1.room ∧ en = .returned (errV 0) ∧ ∃ F, JGo Jn W w' lo h (N + 8 * J1.many) (J1.app l d).2 F F2 a1 a2 { J1 with rs := J1.rs ++ [l] } J2 p1 p2 l1 l2) := by
  rcases Int.lt_or_le J1.room (n : Int) with hr | hr
  · refine (P.refuse F1 a1 J1 x n c l w d s.below s.one s.ok1 hi hB hn h1 h2 h3 (.inr hr)).mono ?_
    rintro en w' ⟨rfl, hb⟩
    exact .inl ⟨hr, by unfold JS.refE; rw [s.up1]; rfl, s.then_ P hb⟩
  · have hl : (l.length : Int) ≤ J1.room := by rw [hn]; exact hr
    have hm : 8 * J1.many ≤ 524288 := by have := s.ok1.fits; have := s.ok1.small; omega
    refine (P.append F1 a1 J1 x n c l w lo N (· ∈ F2) d s.below s.one s.ok1 s.hlo (fun y k => (P.lt s.two y k).2) s.box (by omega) hi hB hn h1 h2 h3 s.up1 hr).mono ?_
    rintro en w' ⟨rfl, F, hj, hF, hbx, ht⟩
    obtain ⟨e0, hv⟩ := JS.app_live s.ok1 s.live hl
    have hmore : J1.more l (J1.app l d).1 = { J1 with rs := J1.rs ++ [l] } := by unfold JS.more; rw [if_pos e0]
    have hok : (J1.more l (J1.app l d).1).ok (J1.app l d).2 := s.ok1.next (JS.app_many J1 l d) hB hl _
    rw [hmore] at hj hok
    refine .inr ⟨hr, by rw [e0], F, ?_⟩
    exact { box := hbx
            hand := ht.block _ _ s.hand hand_TB s.nh.1
            gg := s.gg
            one := hj
            two := P.keep s.two fun b k => by
              obtain ⟨cur, t, fr, e, q1, q2⟩ := P.form s.two b k
              exact (ht.block b _ e (fun hT => by rcases hT with hT | hT; exact q1 hT; exact q2 hT) (fun k1 => s.apart b k1 k)).trans e.symm
            apart := fun b k1 k2 => by
              rcases hF b k1 with k3 | k3
              · exact s.apart b k3 k2
              · exact absurd (P.lt s.two b k2).2 (by omega)
            nh := ⟨fun k => by
              rcases hF _ k with k3 | k3
              · exact s.nh.1 k3
              · exact absurd (lt_of_block s.hand) (by omega), s.nh.2⟩
            below := s.below.trans ht.below
            hlo := s.hlo
            live := hv
            allB := JS.app_allB s.ok1 s.allB hB
            ok1 := hok
            ok2 := s.ok2.disk (JS.app_many J1 l d)
            up1 := s.up1
            up2 := s.up2
            n1 := s.n1.app s.ok1 hl e0
            n2 := s.n2.aside fun q hq => JS.app_now s.ok1 hl e0 (by have := s.away; omega)
            away := s.away
            put1 := s.put1.jturns ht fun y hy => (s.off1 y hy).1
            put2 := s.put2.jturns ht fun y hy => (s.off2 y hy).1
            off1 := fun y hy => ⟨fun k => by
              rcases hF _ k with k3 | k3
              · exact (s.off1 y hy).1 k3
              · exact absurd (s.put1.block y hy).2 (by omega), (s.off1 y hy).2⟩
            off2 := fun y hy => ⟨fun k => by
              rcases hF _ k with k3 | k3
              · exact (s.off2 y hy).1 k3
              · exact absurd (s.put2.block y hy).2 (by omega), (s.off2 y hy).2⟩ }
/-- The first one's area is read, through a handle that was made before. -/
theorem JGo.read (P : P15J W Jn) (s : JGo Jn W w lo h N d F1 F2 a1 a2 J1 J2 p1 p2 l1 l2) {hd : Nat} (hh : w.heap[hd]? = some (.cells #[.pointer (some ⟨J1.g, 0, none⟩)] 86)) (hm : 1 ≤ J1.many) :
    Calls Tryd.prog 25 #[.pointer (some ⟨hd, 0, none⟩), .int .i64 (J1.fr : Int), .int .i64 (J1.many : Int), .int .i64 J1.e] w fun en w' => ∃ a c, en = .returned (.tuple #[.slice a J1.rs.length c, .nilIface]) ∧ InRR w' a J1.rs ∧ Below w.heap.size w w' := by
  have h1 := s.ok1.fits
  have h2 := s.ok1.small
  have h3 := s.ok1.ep
  unfold jOk at h3
  obtain ⟨q1, q2⟩ := s.n1.area s.ok1 s.live.ok s.live.up hm
  refine (P.read hd J1.g (J1.fr : Int) (J1.many : Int) J1.e w _ N d s.below hh s.box (s.allB.byte s.live.ok) h2 (by unfold okInt; omega) (by unfold okInt; omega) (by unfold okInt; omega)).mono ?_
  rintro en w' ⟨v, rs, rfl, e1, e2, e3, e4⟩
  obtain ⟨a, c, rfl, hi⟩ := e3.inRR e2
  rw [q2] at e1
  rw [e1] at hi
  refine ⟨a, c, ?_, hi, e4⟩
  rw [q1, errV_zero, ← e1, List.length_map]
end
end Go.Proofs.YtophhnolnlbecaaDoor
namespace Go.Proofs.YtophhnolnlbecaaDoor
open Go.RowKit Go.ChangeShapes Go.WideShapes Go.ChangeAt Go.Shelf Go.Lib
set_option maxRecDepth 100000

theorem bulk_one {H : Type} (d : DataW H) : 1 ≤ Rows.uptoBulk d := by
  cases d with
  | lit x => cases x <;> simp [Rows.uptoBulk]
  | _ => simp [Rows.uptoBulk]
theorem bulk_len {H : Type} (l : List (DataW H)) : l.length ≤ Rows.uptoBulkAll l := by
  induction l with
  | nil => simp [Rows.uptoBulkAll]
  | cons d r ih => have := bulk_one d; simp [Rows.uptoBulkAll]; omega
theorem bytes_bulk {H : Type} {enc : TypeId × Value → H} {W : World} {la : Option Addr} {n c : Nat} {d : DataW H} {p : List MemPlace} (h : DataW.Trod enc Tryd.prog W 0 (fun _ => true) true 22 (.slice la n c) d p) (h0 : la = none → n = 0) : n ≤ Rows.uptoBulk d := by
  obtain ⟨fuel, hf⟩ := h
  rcases DataW.trod_slice Tryd.underlying22 hf with ⟨hc, -⟩ | ⟨a, len, cap, elems, rest, n2, rfl, hc, hx, -, hl, -, hel, hi, hsp, -⟩
  · simp [Value.cells] at hc
    omega
  · simp [Value.cells] at hc
    obtain ⟨-, e, -⟩ := hc
    have e3 := congrArg Prod.fst hx
    simp only at e3
    rw [e3]
    have := bulk_len (elems.map (·.1))
    simp only [Rows.uptoBulk]
    simp at this
    omega
end Go.Proofs.YtophhnolnlbecaaDoor
