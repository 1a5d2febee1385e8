/- Where JournalPower stands. No statement is proved here. -/
import Derived.Test.YtophhnolnlbecaaDoorJBst
namespace Go.Proofs.YtophhnolnlbecaaDoor
open Go.RowKit
set_option maxRecDepth 100000

set_option maxHeartbeats 4000000 in
theorem down_any (h g : Nat) (w : World) (B : Base) (N : Nat) (d : Dk) (hh : w.cell? ⟨h, 0, none⟩ = some (.pointer (some ⟨g, 0, none⟩))) (hb : BoxAt w B g d N) :
    Calls Tryd.prog 30 #[.pointer (some ⟨h, 0, none⟩)] w fun e w' => e = .returned (.bool d.down) ∧ w' = w := by
  obtain ⟨hok, s, hb⟩ := hb
  have c0 : w.cell? ⟨g, 7, none⟩ = some (.bool d.down) := hb.cells 7
  clear hb
  go_enter Tryd.func30, Tryd.ntmps30
  go_wp2
  go_ret
  exact ⟨rfl, rfl⟩
theorem Dk.sync_downJ {d : Dk} (h : d.syncE ≠ 0) : d.sync.down = true := by
  unfold Dk.syncE Dk.errA at h
  unfold Dk.sync
  cases hd : d.down with
  | true => rw [if_pos rfl]; exact hd
  | false =>
    rw [hd] at h
    cases hg : d.goes with
    | false => rw [hg] at h; exact absurd rfl h
    | true =>
      have ha : d.acted = { d with down := true } := by unfold Dk.acted; rw [hg]; rfl
      rw [ha, if_neg (by decide)]
      cases d.does <;> rfl
theorem Dk.live.sync {d : Dk} (h : d.live) : d.syncE = 0 ∧ d.sync.live ∧ d.sync.wait = [] ∧ d.sync.now = d.now := by
  have hs : d.sync = d.settle := by
    unfold Dk.sync
    rw [h.up, h.does, h.acted]
    rfl
  refine ⟨?_, ?_, ?_, ?_⟩
  · unfold Dk.syncE Dk.errA
    rw [h.up, h.goes]
    rfl
  · rw [hs]
    exact ⟨Dk.settle_ok h.ok, h.armed, h.up⟩
  · rw [hs]; rfl
  · rw [hs]; rfl
/-- What an append leaves is of its epoch. -/
theorem JS.app_stamp {J : JS} {d : Dk} {l : List Int} (ho : J.ok d) (hl : (l.length : Int) ≤ J.room) (h0 : (J.app l d).1 = 0) {f : Int} (hne : J.e ≠ f) {b0 n : Nat} (h : ∀ q, q < n → ¬ stampIs (d.look (b0 + q)) f) : ∀ q, q < n → ¬ stampIs ((J.app l d).2.look (b0 + q)) f := fun q hq => by
  obtain ⟨j, -, -, -, -, -, h6⟩ := jApp_run (b0 := 8 * J.fr) (n := 8 * J.many) (e := J.e) (rs := J.rs) (d := d) l ho.fits (JS.strm (d := d) hl)
  have h7 := (h6 h0).2.2 (b0 + q)
  have h8 := h q hq
  unfold JS.app
  unfold Dk.look at *
  rw [h7]
  split
  · exact other_stamp ho.ep hne _ _
  · exact h8
/-- The first journal is written, the second one waits. -/
def PSt1 (Jn : World → List Nat → Nat → JS → Prop) (W : World) (lo h g : Nat) (e : Int) (a1 a2 : Nat) (w : World) : Prop :=
  ∃ N d F1 F2 rs, N ≤ 24 * rs.length ∧ d.live ∧ (∀ q, q < 24 → ¬ stampIs (d.look (8 + q)) (e + 1)) ∧ jOk (e + 1) ∧ Jn w F2 a2 ⟨g, 1, 3, e + 1, [], false⟩ ∧ JM Jn W w lo h N d F1 F2 a1 ⟨g, 1, 3, e, rs, false⟩ (some (a2, ⟨g, 1, 3, e + 1, [], false⟩)) (.slice none 0 0) [] (.slice none 0 0) []
/-- The second one is written: rs: what the law keeps; sf: how much of it is safe. -/
structure PSt2 (Jn : World → List Nat → Nat → JS → Prop) (W : World) (lo h g : Nat) (f : Int) (a : Nat) (p : Value) (n sf N : Nat) (w : World) (d : Dk) (F : List Nat) (J : JS) (l : List (Value × List Int)) (rs : List (List Int)) (m1 : List (List Int)) : Prop where
  all : rs = l.map Prod.snd ++ m1
  len : l.length = n
  bound : N ≤ 15000 + 24 * rs.length
  ep : jOk f
  jg : J.g = g
  jf : J.fr = 1
  jm : J.many = 3
  je : J.e = f
  few : rs.length ≤ 605
  rows : ∀ r ∈ rs, isB r ∧ r.length ≤ 268435456
  fits : (strmK f rs sf).length ≤ 504 * 24
  safe : sf ≤ rs.length
  pw : JP 8 24 f rs sf d
  on : d.down = true ∨ (J.dead = false ∧ J.rs = rs ∧ JN 8 24 f rs d)
  mem : JM Jn W w lo h N d F [] a J none p l (.slice none 0 0) []
section
variable {Jn : World → List Nat → Nat → JS → Prop} {W w w' : World} {lo h g a a1 a2 n sf N : Nat} {e f : Int} {p : Value} {d : Dk} {F : List Nat} {J : JS} {l : List (Value × List Int)} {rs m1 : List (List Int)}
theorem PSt1.app (P : P15J W Jn) (s : PSt1 Jn W lo h g e a1 a2 w) {x : Option Addr} {k c : Nat} {r : List Int} (hi : InB w x r) (hB : isB r) (hn : r.length = k) (h1 : k ≤ c) (h2 : c ≤ maxLen) (h3 : x = none → c = 0 ∧ r = []) :
    Calls Tryd.prog 22 #[.pointer (some ⟨a1, 0, none⟩), .slice x k c] w fun en w' => ∃ er, en = .returned (errV er) ∧ PSt1 Jn W lo h g e a1 a2 w' := by
  obtain ⟨N, d, F1, F2, rs, e3, e4, e5, e6, e7, s⟩ := s
  have hf := s.ok.few.1
  dsimp only at hf
  refine (s.app P hi hB hn h1 h2 h3 (by omega)).mono ?_
  rintro en w' (⟨hr, rfl, s'⟩ | ⟨-, hr, rfl, F', s'⟩)
  · exact ⟨_, rfl, N, d, F1, F2, rs, e3, e4, e5, e6, s'.two _ rfl, s'⟩
  · have hl : (r.length : Int) ≤ JS.room ⟨g, 1, 3, e, rs, false⟩ := by rw [hn]; exact hr
    obtain ⟨z, hv⟩ := JS.app_live s.ok e4 hl
    have hst := JS.app_stamp s.ok hl z (f := e + 1) (by show e ≠ e + 1; omega) e5
    rw [z] at s' ⊢
    refine ⟨0, rfl, _, _, F', F2, rs ++ [r], ?_, hv, hst, e6, s'.two _ rfl, s'⟩
    rw [List.length_append, List.length_singleton]
    show N + 8 * 3 ≤ _
    omega
theorem PSt1.then_ (P : P15J W Jn) (s : PSt1 Jn W lo h g e a1 a2 w) (hb : Below w.heap.size w w') : PSt1 Jn W lo h g e a1 a2 w' := by
  obtain ⟨N, d, F1, F2, rs, e3, e4, e5, e6, e7, s⟩ := s
  exact ⟨N, d, F1, F2, rs, e3, e4, e5, e6, (s.then_ P hb).two _ rfl, s.then_ P hb⟩
theorem PSt1.below (s : PSt1 Jn W lo h g e a1 a2 w) : Below W.heap.size W w := by
  obtain ⟨N, d, F1, F2, rs, e3, e4, e5, e6, e7, s⟩ := s
  exact s.below
theorem PSt1.hand (s : PSt1 Jn W lo h g e a1 a2 w) : w.heap[h]? = some (.cells #[.pointer (some ⟨g, 0, none⟩)] 79) := by
  obtain ⟨N, d, F1, F2, rs, e3, e4, e5, e6, e7, s⟩ := s
  exact s.hand
/-- The disk is synced, and nothing waits any more. -/
theorem PSt1.sync (P : P15J W Jn) (s : PSt1 Jn W lo h g e a1 a2 w) {hd : Nat} (hh : w.heap[hd]? = some (.cells #[.pointer (some ⟨g, 0, none⟩)] 86)) :
    Calls Tryd.prog 28 #[.pointer (some ⟨hd, 0, none⟩)] w fun en w' => en = .returned .nilIface ∧ ∃ N d F, PSt2 Jn W lo h g (e + 1) a2 (.slice none 0 0) 0 0 N w' d F ⟨g, 1, 3, e + 1, [], false⟩ [] [] [] := by
  obtain ⟨N, d, F1, F2, rs, e3, e4, e5, e6, e7, s⟩ := s
  have hf := s.ok.few.1
  dsimp only at hf
  obtain ⟨q1, q2, q3, q4⟩ := e4.sync
  refine (dsync_any hd g w _ N d hh s.box (by omega)).mono ?_
  rintro en w' ⟨rfl, hbx, ht⟩
  have s2 := s.turnD P s.hlo hbx ht s.allB.sync d.sync_many
  have hst : ∀ q, q < 24 → ¬ stampIs (d.sync.look (8 + q)) (e + 1) := fun q hq => by
    have h1 := e5 q hq
    unfold Dk.look at *
    rw [q4]
    exact h1
  rw [q1]
  refine ⟨rfl, N, d.sync, F2, rfl, rfl, ?_, e6, rfl, rfl, rfl, rfl, (by show 0 ≤ 605; omega), (fun r hr => by cases hr), (by show 0 ≤ 504 * 24; omega), Nat.le_refl _, JP.new hst q2.ok q3, .inr ⟨rfl, rfl, JN.new hst⟩, ?_⟩
  · show N ≤ 15000 + 24 * 0
    omega
  · have hok := s2.ok
    exact { box := s2.box.offs fun y hy => .inl (by rcases hy with hy | hy; exact .inr hy; cases hy)
            hand := s2.hand
            one := s2.two _ rfl
            two := fun x hx => by cases hx
            two0 := fun _ => rfl
            apart := fun b k1 k2 => by cases k2
            nh := ⟨s2.nh.2, fun k => by cases k⟩
            below := s2.below
            hlo := s2.hlo
            allB := s2.allB
            ok := ⟨e6, hok.fits, hok.small, by show 0 ≤ _; omega, fun r hr => by cases hr⟩
            put := s2.put
            offP := fun y hy => by cases hy
            ints := s2.ints
            offQ := fun y hy => by cases hy }
theorem PSt2.then_ (P : P15J W Jn) (s : PSt2 Jn W lo h g f a p n sf N w d F J l rs m1) (hb : Below w.heap.size w w') : PSt2 Jn W lo h g f a p n sf N w' d F J l rs m1 := { s with mem := s.mem.then_ P hb }
theorem PSt2.hand (s : PSt2 Jn W lo h g f a p n sf N w d F J l rs m1) : w.heap[h]? = some (.cells #[.pointer (some ⟨g, 0, none⟩)] 79) := by
  have := s.mem.hand
  rw [s.jg] at this
  exact this
theorem PSt2.box (s : PSt2 Jn W lo h g f a p n sf N w d F J l rs m1) : BoxAt w ⟨lo, fun y => y ∈ F ∨ y ∈ ([] : List Nat)⟩ g d N := by
  have := s.mem.box
  rw [s.jg] at this
  exact this
theorem PSt2.arm (P : P15J W Jn) (s : PSt2 Jn W lo h g f a p n sf N w d F J l rs m1) {acts : Int} (ha : okInt acts) (done : Bool) :
    Calls Tryd.prog 29 #[.pointer (some ⟨h, 0, none⟩), .int .i64 acts, .bool done] w fun en w' => en = .returned (.tuple #[]) ∧ PSt2 Jn W lo h g f a p n sf N w' (d.arm acts done) F J l rs m1 := by
  refine (arm_any h g acts done w _ N d ha (row_cells s.hand 0) s.box).mono ?_
  rintro en w' ⟨rfl, hbx, ht⟩
  rw [← s.jg] at hbx
  exact ⟨rfl, { s with pw := s.pw.arm acts done, on := by rcases s.on with k | k; exact .inl k; exact .inr k, mem := s.mem.turnD P s.mem.hlo hbx ht (s.mem.allB.arm acts done) rfl }⟩
/-- An append of the second one, while the power is there. -/
theorem PSt2.app (P : P15J W Jn) (s : PSt2 Jn W lo h g f a p n sf N w d F J l rs []) (hup : d.down = false) {x : Option Addr} {k c : Nat} {r : List Int} (hi : InB w x r) (hB : isB r) (hn : r.length = k) (h1 : k ≤ c) (h2 : c ≤ maxLen) (h3 : x = none → c = 0 ∧ r = []) :
    Calls Tryd.prog 22 #[.pointer (some ⟨a, 0, none⟩), .slice x k c] w fun en w' => ∃ er, en = .returned (errV er) ∧ ((er = 150 ∧ PSt2 Jn W lo h g f a p n sf N w' d F J l rs []) ∨ ((er = 0 ∨ er = 5) ∧ ∃ N' d' F' J', (er = 0 → d'.down = d.down ∧ J'.dead = false ∧ J'.rs = rs ++ [r] ∧ JN 8 24 f (rs ++ [r]) d') ∧ PSt2 Jn W lo h g f a p n sf N' w' d' F' J' l (rs ++ [r]) [r])) := by
  obtain ⟨k1, k2, k3⟩ : J.dead = false ∧ J.rs = rs ∧ JN 8 24 f rs d := by
    rcases s.on with k | k
    · rw [hup] at k; cases k
    · exact k
  have hf := s.mem.ok.few.1
  rw [k2, s.jm] at hf
  have hb := s.bound
  refine (s.mem.app P hi hB hn h1 h2 h3 (by omega)).mono ?_
  rintro en w' (⟨hr, rfl, s'⟩ | ⟨-, hr, rfl, F', s'⟩)
  · exact ⟨150, by unfold JS.refE; rw [k1]; rfl, .inl ⟨rfl, { s with mem := s' }⟩⟩
  · have hl : (r.length : Int) ≤ J.room := by rw [hn]; exact hr
    have hst := JS.strm (J := J) (d := d) hl
    have hsr : (strmR f rs r).length ≤ 504 * 24 := by rw [s.je, k2, s.jm] at hst; exact hst
    have hfit := s.mem.ok.fits
    rw [s.jf, s.jm] at hfit
    have happ : J.app r d = jApp 8 f rs r d := by unfold JS.app; rw [s.jf, s.je, k2]
    have hpw : JP 8 24 f (rs ++ [r]) sf (J.app r d).2 := by
      rw [happ]
      exact s.pw.append s.safe r hfit hsr
    have hlen : (rs ++ [r]).length = rs.length + 1 := by rw [List.length_append, List.length_singleton]
    have hmore : (J.more r (J.app r d).1).g = g ∧ (J.more r (J.app r d).1).fr = 1 ∧ (J.more r (J.app r d).1).many = 3 ∧ (J.more r (J.app r d).1).e = f := by
      unfold JS.more
      split
      · exact ⟨s.jg, s.jf, s.jm, s.je⟩
      · exact ⟨s.jg, s.jf, s.jm, s.je⟩
    have base : (d' : Dk) → (d'.down = true ∨ ((J.more r (J.app r d).1).dead = false ∧ (J.more r (J.app r d).1).rs = rs ++ [r] ∧ JN 8 24 f (rs ++ [r]) d')) → d' = (J.app r d).2 → PSt2 Jn W lo h g f a p n sf (N + 8 * J.many) w' d' F' (J.more r (J.app r d).1) l (rs ++ [r]) [r] := fun d' hon hd' => by
      subst hd'
      refine ⟨by rw [s.all, List.append_nil], s.len, by rw [hlen, s.jm]; omega, s.ep, hmore.1, hmore.2.1, hmore.2.2.1, hmore.2.2.2, by omega, fun y hy => ?_, ?_, by rw [hlen]; have := s.safe; omega, hpw, hon, s'⟩
      · rcases List.mem_append.1 hy with hy | hy
        · exact s.rows y hy
        · rw [List.mem_singleton.1 hy]
          exact ⟨hB, s.mem.ok.short hl⟩
      · rw [strmK_app f rs r sf s.safe]
        exact s.fits
    by_cases h0 : (J.app r d).1 = 0
    · have hJN : JN 8 24 f (rs ++ [r]) (J.app r d).2 := by
        rw [happ] at h0 ⊢
        exact k3.append r hfit hsr h0
      have hm : J.more r (J.app r d).1 = { J with rs := rs ++ [r] } := by unfold JS.more; rw [if_pos h0, k2]
      have hdn : (J.app r d).2.down = d.down := by
        rw [happ] at h0 ⊢
        obtain ⟨j, -, -, -, -, -, h6⟩ := jApp_run (b0 := 8) (n := 24) (e := f) (rs := rs) (d := d) r hfit hsr
        exact (h6 h0).2.1
      refine ⟨_, rfl, .inr ⟨.inl h0, _, _, F', _, fun _ => ⟨hdn, by rw [hm]; exact k1, by rw [hm], hJN⟩, base _ (.inr ⟨by rw [hm]; exact k1, by rw [hm], hJN⟩) rfl⟩⟩
    · obtain ⟨h5, hdn⟩ := JS.app_down s.mem.ok hl h0
      refine ⟨_, rfl, .inr ⟨.inr h5, _, _, F', _, fun k => absurd k h0, base _ (.inl hdn) rfl⟩⟩
/-- A sync of the second one. -/
theorem PSt2.sync (P : P15J W Jn) (s : PSt2 Jn W lo h g f a p n sf N w d F J l rs []) (k1 : J.dead = false) (k2 : J.rs = rs) (k3 : JN 8 24 f rs d) (hfr : (strmK f rs rs.length).length ≤ 504 * 24) :
    Calls Tryd.prog 31 #[.pointer (some ⟨a, 0, none⟩)] w fun en w' => ∃ er, en = .returned (errV er) ∧ ((er ≠ 0 ∧ ∃ d' F' J', PSt2 Jn W lo h g f a p n sf N w' d' F' J' l rs []) ∨ (er = 0 ∧ ∃ d' F' J', PSt2 Jn W lo h g f a p n rs.length N w' d' F' J' l rs [] ∧ J'.rs = rs)) := by
  have hb := s.bound
  have hf := s.few
  refine (s.mem.sync P k1 (by omega) d.sync_many).mono ?_
  rintro en w' ⟨rfl, F', s'⟩
  refine ⟨_, rfl, ?_⟩
  by_cases h0 : d.syncE = 0
  · obtain ⟨q1, q2, q3, q4⟩ := s.pw.synced k3 s.mem.box.ok h0
    refine .inr ⟨h0, d.sync, F', { J with dead := decide (d.syncE ≠ 0) }, { s with fits := hfr, safe := Nat.le_refl _, pw := q1, on := .inr ⟨by show decide (d.syncE ≠ 0) = false; rw [h0]; rfl, k2, q2⟩, mem := s', jg := s.jg, jf := s.jf, jm := s.jm, je := s.je }, k2⟩
  · exact .inl ⟨h0, d.sync, F', { J with dead := decide (d.syncE ≠ 0) }, { s with pw := s.pw.sync, on := .inl (Dk.sync_downJ h0), mem := s', jg := s.jg, jf := s.jf, jm := s.jm, je := s.je }⟩
/-- Behind a loss of power: ls is what is read. -/
def PSt3 (Jn : World → List Nat → Nat → JS → Prop) (W : World) (lo h g : Nat) (f : Int) (a : Nat) (p : Value) (ls : List (List Int)) (w : World) : Prop :=
  ∃ N d F J l, J.g = g ∧ J.fr = 1 ∧ J.many = 3 ∧ J.e = f ∧ jRdE d 1 3 f = 0 ∧ jRdL d 1 3 f = ls ∧ ls = (l.map Prod.snd).take ls.length ∧ JM Jn W w lo h N d F [] a J none p l (.slice none 0 0) []
theorem PSt2.crash (P : P15J W Jn) (s : PSt2 Jn W lo h g f a p n sf N w d F J l rs []) {ka : Option Addr} {kn kc : Nat} {kb : List Bool} (hk : InK w lo ka kb) (hkn : kb.length = kn) (hk2 : kn ≤ 140737488355328) :
    Calls Tryd.prog 33 #[.pointer (some ⟨h, 0, none⟩), .slice ka kn kc] w fun en w' => en = .returned (.tuple #[]) ∧ ∃ ls, sf ≤ ls.length ∧ ls.length ≤ n ∧ PSt3 Jn W lo h g f a p ls w' := by
  have hb := s.bound
  have hf := s.few
  refine (crash_any h g ka kn kc kb w _ N d s.hand s.box hk hkn hk2 (by omega)).mono ?_
  rintro en w' ⟨rfl, hbx, ht⟩
  rw [← s.jg] at hbx
  have s' := s.mem.turnD P s.mem.hlo hbx ht (s.mem.allB.crash kb) rfl
  obtain ⟨m, m1, m2, m3, m4⟩ := s.pw.read (keep := kb) s'.box.ok s.ep (by omega) (fun r hr => (s.rows r hr).2) s.safe s.fits
  have hall := s.all
  rw [List.append_nil] at hall
  have hlen : rs.length = n := by rw [hall, List.length_map, s.len]
  have hfit := s.mem.ok.fits
  rw [s.jf, s.jm] at hfit
  have hE : jRdE (d.crash kb) 1 3 f = 0 := by
    have hm : (d.crash kb).many = d.many := rfl
    unfold jRdE
    rw [if_pos ⟨s.ep, by omega, by rw [hm]; omega, by omega, by rw [hm]; omega⟩]
    rfl
  have hL : (rs.take m).length = m := by rw [List.length_take]; omega
  refine ⟨rfl, rs.take m, by rw [hL]; exact m1, by rw [hL]; omega, N, d.crash kb, F, J, l, s.jg, s.jf, s.jm, s.je, hE, ?_, by rw [hL, ← hall], s'⟩
  unfold jRdL
  rw [if_pos hE]
  have e1 : (3 : Int).toNat = 3 := rfl
  have e2 : (1 : Int).toNat = 1 := rfl
  unfold jArea
  rw [e1, e2]
  show (scanN (streamN f 24 (catF (fun q => (d.crash kb).look (8 + q)) 0 24)) f).1 = _
  rw [m4]
theorem PSt3.disk (P : P15J W Jn) {ls : List (List Int)} (s : PSt3 Jn W lo h g f a p ls w) :
    Calls Tryd.prog 20 #[.pointer (some ⟨h, 0, none⟩)] w fun en w' => ∃ hd, en = .returned (.pointer (some ⟨hd, 0, none⟩)) ∧ w'.heap[hd]? = some (.cells #[.pointer (some ⟨g, 0, none⟩)] 86) ∧ PSt3 Jn W lo h g f a p ls w' := by
  obtain ⟨N, d, F, J, l, e1, e2, e3, e4, e5, e6, e7, s⟩ := s
  refine (s.disk P).mono ?_
  rintro en w' ⟨hd, rfl, hh, -, s'⟩
  rw [e1] at hh
  exact ⟨hd, rfl, hh, N, d, F, J, l, e1, e2, e3, e4, e5, e6, e7, s'⟩
theorem PSt3.read (P : P15J W Jn) {ls : List (List Int)} (s : PSt3 Jn W lo h g f a p ls w) {hd : Nat} (hh : w.heap[hd]? = some (.cells #[.pointer (some ⟨g, 0, none⟩)] 86)) {pa : Option Addr} {pc : Nat} (hp : p = .slice pa n pc) :
    Calls Tryd.prog 25 #[.pointer (some ⟨hd, 0, none⟩), .int .i64 1, .int .i64 3, .int .i64 f] w fun en w' => ∃ a c, en = .returned (.tuple #[.slice a ls.length c, .nilIface]) ∧ InRR w' a ls ∧ InRR w' pa ls ∧ n ≤ pc ∧ Below W.heap.size W w' := by
  obtain ⟨N, d, F, J, l, e1, e2, e3, e4, e5, e6, e7, s⟩ := s
  rw [← e1] at hh
  have hE : jRdE d J.fr J.many J.e = 0 := by rw [e2, e3, e4]; exact e5
  have hL : jRdL d J.fr J.many J.e = ls := by rw [e2, e3, e4]; exact e6
  have h := s.read P hh hE
  rw [hL, e2, e3, e4] at h
  refine h.mono ?_
  rintro en w' ⟨a, c, rfl, hi, hb⟩
  obtain ⟨a', c', h1, h2, -⟩ := s.put.form
  rw [hp] at h1
  injection h1 with _ h3 h1
  refine ⟨a, c, rfl, hi, ?_, by omega, below_then s.below hb⟩
  rw [e7]
  exact (((s.put.then_ hb).inRR (below_then s.below hb) hp)).take _
/-- The row of what was appended, and what comes of it when it grows. -/
theorem PSt2.putAt (P : P15J W Jn) {r : List Int} (s : PSt2 Jn W lo h g f a p n sf N w d F J l rs [r]) (v p' : Value) (w' : World) (h1 : Put W w' lo p' (l ++ [(v, r)])) (h2 : w.grownBy w' p.ownBlock) (h3 : p'.ownBlock = p.ownBlock ∨ p'.ownBlock = some w.heap.size) : PSt2 Jn W lo h g f a p' (n + 1) sf N w' d F J (l ++ [(v, r)]) rs [] :=
  { s with all := by rw [s.all, List.map_append, List.append_nil]; rfl, len := by rw [List.length_append, s.len]; rfl, mem := s.mem.growP P h1 h2 h3 }
theorem PSt1.start (P : P15J W Jn) (he : jOk e) (hf : jOk (e + 1)) {w2 w3 w4 w5 : World} {F1 F2 : List Nat} {hd1 hd2 : Nat} (hlo : W.heap.size ≤ lo) (hW : Below W.heap.size W w2) (hx : w2.heap[h]? = some (.cells #[.pointer (some ⟨g, 0, none⟩)] 79)) (hbx : BoxAt w2 lo g (Dk.new 40) 0) (hd1e : w2.heap.size ≤ hd1)
    (h23 : Below w2.heap.size w2 w3) (j1 : Jn w3 F1 a1 ⟨g, 1, 3, e, [], false⟩) (f1 : ∀ b ∈ F1, b = hd1 ∨ w2.heap.size ≤ b) (h34 : Below w3.heap.size w3 w4) (hd2e : w3.heap.size ≤ hd2) (h45 : Below w4.heap.size w4 w5) (j2 : Jn w5 F2 a2 ⟨g, 1, 3, e + 1, [], false⟩) (f2 : ∀ b ∈ F2, b = hd2 ∨ w4.heap.size ≤ b) :
    PSt1 Jn W lo h g e a1 a2 w5 := by
  have h35 := below_then h34 h45
  have h25 := below_then h23 h35
  have g1 : ∀ b ∈ F1, w2.heap.size ≤ b := fun b k => by rcases f1 b k with k1 | k1 <;> omega
  have g2 : ∀ b ∈ F2, w3.heap.size ≤ b := fun b k => by
    have := h34.size
    rcases f2 b k with k1 | k1 <;> omega
  refine ⟨0, Dk.new 40, F1, F2, [], Nat.zero_le _, ⟨Dk.new_ok 40, rfl, rfl⟩, fun q _ => zero_stamp hf, hf, j2, ?_⟩
  exact { box := (((hbx.off (fun y => w2.heap.size ≤ y) (fun y k => k)).offs (fun y k => .inl (by rcases k with k | k; exact g1 y k; exact Nat.le_trans h23.size (g2 y k)))).then_ h25)
          hand := (h25.block _ (lt_of_block hx)).trans hx
          one := P.keep j1 fun b k => h35.block b (P.lt j1 b k).2
          two := fun x hx => by injection hx with hx; subst hx; exact j2
          two0 := fun h => by cases h
          apart := fun b k1 k2 => by
            have := (P.lt j1 b k1).2
            have := g2 b k2
            omega
          nh := ⟨fun k => by
            have := g1 _ k
            have := lt_of_block hx
            omega, fun k => by
            have := g2 _ k
            have := lt_of_block hx
            have := h23.size
            omega⟩
          below := hW.trans (h25.mono (hW.size))
          hlo := hlo
          allB := Dk.allB.new 40
          ok := ⟨he, by show 8 * 1 + 8 * 3 ≤ 40; omega, by show 40 ≤ 524288; omega, by show 0 ≤ _; omega, fun r hr => by simp at hr⟩
          put := Put.nil _ _ _
          offP := fun y hy => by cases hy
          ints := OwnI.nil _ _
          offQ := fun y hy => by cases hy }
theorem InKJ.up {w : World} {B B' : Nat} {a : Option Addr} {l : List Bool} (h : InK w B a l) (hB : B ≤ B') : InK w B' a l := fun i x hx => by
  obtain ⟨b, o, h1, h2, h3⟩ := h i x hx
  exact ⟨b, o, h1, by omega, h3⟩
end
end Go.Proofs.YtophhnolnlbecaaDoor
