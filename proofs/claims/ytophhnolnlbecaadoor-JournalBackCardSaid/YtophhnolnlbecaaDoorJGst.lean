/- Where JournalGrows stands, with what it keeps of the records. No statement is proved here. -/
import Derived.Test.YtophhnolnlbecaaDoorQ33
namespace Go.Proofs.YtophhnolnlbecaaDoor
open Go.RowKit
set_option maxRecDepth 100000

/-- Two areas of a disk of forty sectors; m1 and m2: what was appended and isn't kept yet. -/
def GSt (Jn : World → List Nat → Nat → JS → Prop) (W : World) (lo h g : Nat) (e : Int) (a1 a2 K : Nat) (p1 p2 : Value) (n1 n2 : Nat) (m1 m2 : List (List Int)) (w : World) : Prop :=
  ∃ N d F1 F2 l1 l2, l1.length = n1 ∧ l2.length = n2 ∧ N ≤ K ∧ JGo Jn W w lo h N d F1 F2 a1 a2 ⟨g, 1, 2, e, l1.map Prod.snd ++ m1, false⟩ ⟨g, 3, 1, e, l2.map Prod.snd ++ m2, false⟩ p1 p2 l1 l2
section
variable {Jn : World → List Nat → Nat → JS → Prop} {W w w' : World} {lo h g a1 a2 K n1 n2 : Nat} {e : Int} {p1 p2 : Value} {m1 m2 : List (List Int)}
theorem GSt.then_ (P : P15J W Jn) (s : GSt Jn W lo h g e a1 a2 K p1 p2 n1 n2 m1 m2 w) (hb : Below w.heap.size w w') : GSt Jn W lo h g e a1 a2 K p1 p2 n1 n2 m1 m2 w' := by
  obtain ⟨N, d, F1, F2, l1, l2, e1, e2, e3, s⟩ := s
  exact ⟨N, d, F1, F2, l1, l2, e1, e2, e3, s.then_ P hb⟩
theorem GSt.below (s : GSt Jn W lo h g e a1 a2 K p1 p2 n1 n2 m1 m2 w) : Below W.heap.size W w := by
  obtain ⟨N, d, F1, F2, l1, l2, e1, e2, e3, s⟩ := s
  exact s.below
theorem GSt.hand (s : GSt Jn W lo h g e a1 a2 K p1 p2 n1 n2 m1 m2 w) : w.heap[h]? = some (.cells #[.pointer (some ⟨g, 0, none⟩)] 79) := by
  obtain ⟨N, d, F1, F2, l1, l2, e1, e2, e3, s⟩ := s
  exact s.hand
theorem GSt.forms (s : GSt Jn W lo h g e a1 a2 K p1 p2 n1 n2 m1 m2 w) : (∃ a c, p1 = .slice a n1 c) ∧ ∃ a c, p2 = .slice a n2 c := by
  obtain ⟨N, d, F1, F2, l1, l2, e1, e2, e3, s⟩ := s
  obtain ⟨a, c, h1, -⟩ := s.put1.form
  obtain ⟨b, k, h2, -⟩ := s.put2.form
  exact ⟨⟨a, c, by rw [h1, e1]⟩, b, k, by rw [h2, e2]⟩
theorem GSt.app1 (P : P15J W Jn) (s : GSt Jn W lo h g e a1 a2 K p1 p2 n1 n2 [] m2 w) {x : Option Addr} {n c : Nat} {l : List Int} (hi : InB w x l) (hB : isB l) (hn : l.length = n) (h1 : n ≤ c) (h2 : c ≤ maxLen) (h3 : x = none → c = 0 ∧ l = []) (hN : K ≤ 549755813888) :
    Calls Tryd.prog 22 #[.pointer (some ⟨a1, 0, none⟩), .slice x n c] w fun en w' => (en = .returned (errV 150) ∧ GSt Jn W lo h g e a1 a2 K p1 p2 n1 n2 [] m2 w') ∨ (en = .returned .nilIface ∧ GSt Jn W lo h g e a1 a2 (K + 16) p1 p2 n1 n2 [l] m2 w') := by
  obtain ⟨N, d, F1, F2, l1, l2, e1, e2, e3, s⟩ := s
  refine (s.app P hi hB hn h1 h2 h3 (by omega)).mono ?_
  rintro en w' (⟨-, rfl, s'⟩ | ⟨-, rfl, F, s'⟩)
  · exact .inl ⟨rfl, N, d, F1, F2, l1, l2, e1, e2, e3, s'⟩
  · rw [List.append_nil] at s'
    exact .inr ⟨rfl, _, _, F, F2, l1, l2, e1, e2, by show N + 8 * 2 ≤ _; omega, s'⟩
theorem GSt.app2 (P : P15J W Jn) (s : GSt Jn W lo h g e a1 a2 K p1 p2 n1 n2 m1 [] w) {x : Option Addr} {n c : Nat} {l : List Int} (hi : InB w x l) (hB : isB l) (hn : l.length = n) (h1 : n ≤ c) (h2 : c ≤ maxLen) (h3 : x = none → c = 0 ∧ l = []) (hN : K ≤ 549755813888) :
    Calls Tryd.prog 22 #[.pointer (some ⟨a2, 0, none⟩), .slice x n c] w fun en w' => (en = .returned (errV 150) ∧ GSt Jn W lo h g e a1 a2 K p1 p2 n1 n2 m1 [] w') ∨ (en = .returned .nilIface ∧ GSt Jn W lo h g e a1 a2 (K + 16) p1 p2 n1 n2 m1 [l] w') := by
  obtain ⟨N, d, F1, F2, l1, l2, e1, e2, e3, s⟩ := s
  refine (s.swap.app P hi hB hn h1 h2 h3 (by omega)).mono ?_
  rintro en w' (⟨-, rfl, s'⟩ | ⟨-, rfl, F, s'⟩)
  · exact .inl ⟨rfl, N, d, F1, F2, l1, l2, e1, e2, e3, s'.swap⟩
  · rw [List.append_nil] at s'
    exact .inr ⟨rfl, _, _, F1, F, l1, l2, e1, e2, by show N + 8 * 1 ≤ _; omega, s'.swap⟩
theorem GSt.read1 (P : P15J W Jn) (s : GSt Jn W lo h g e a1 a2 K p1 p2 n1 n2 [] m2 w) {hd : Nat} (hh : w.heap[hd]? = some (.cells #[.pointer (some ⟨g, 0, none⟩)] 86)) {pa : Option Addr} {pc : Nat} (hp : p1 = .slice pa n1 pc) :
    Calls Tryd.prog 25 #[.pointer (some ⟨hd, 0, none⟩), .int .i64 1, .int .i64 2, .int .i64 e] w fun en w' => ∃ a c rs, en = .returned (.tuple #[.slice a n1 c, .nilIface]) ∧ InRR w' a rs ∧ InRR w' pa rs ∧ rs.length = n1 ∧ Below w.heap.size w w' := by
  obtain ⟨N, d, F1, F2, l1, l2, e1, e2, e3, s⟩ := s
  refine (s.read P hh (by show 1 ≤ 2; omega)).mono ?_
  rintro en w' ⟨a, c, rfl, hi, hb⟩
  dsimp only at hi
  rw [List.append_nil] at hi
  have hl : (l1.map Prod.snd).length = n1 := by rw [List.length_map, e1]
  exact ⟨a, c, l1.map Prod.snd, by rw [List.append_nil, hl], hi, ((s.put1.then_ hb).inRR (below_then s.below hb) hp), hl, hb⟩
theorem GSt.read2 (P : P15J W Jn) (s : GSt Jn W lo h g e a1 a2 K p1 p2 n1 n2 m1 [] w) {hd : Nat} (hh : w.heap[hd]? = some (.cells #[.pointer (some ⟨g, 0, none⟩)] 86)) {pa : Option Addr} {pc : Nat} (hp : p2 = .slice pa n2 pc) :
    Calls Tryd.prog 25 #[.pointer (some ⟨hd, 0, none⟩), .int .i64 3, .int .i64 1, .int .i64 e] w fun en w' => ∃ a c rs, en = .returned (.tuple #[.slice a n2 c, .nilIface]) ∧ InRR w' a rs ∧ InRR w' pa rs ∧ rs.length = n2 ∧ Below w.heap.size w w' := by
  obtain ⟨N, d, F1, F2, l1, l2, e1, e2, e3, s⟩ := s
  have s := s.swap
  refine (s.read P hh (by show 1 ≤ 1; omega)).mono ?_
  rintro en w' ⟨a, c, rfl, hi, hb⟩
  dsimp only at hi
  rw [List.append_nil] at hi
  have hl : (l2.map Prod.snd).length = n2 := by rw [List.length_map, e2]
  exact ⟨a, c, l2.map Prod.snd, by rw [List.append_nil, hl], hi, ((s.put1.then_ hb).inRR (below_then s.below hb) hp), hl, hb⟩
theorem GSt.rec1 (P : P15J W Jn) (s : GSt Jn W lo h g e a1 a2 K p1 p2 n1 n2 [] m2 w) :
    Calls Tryd.prog 32 #[.pointer (some ⟨a1, 0, none⟩)] w fun en w' => en = .returned (.int .i64 (n1 : Int)) ∧ Below w.heap.size w w' := by
  obtain ⟨N, d, F1, F2, l1, l2, e1, e2, e3, s⟩ := s
  refine (P.records F1 a1 _ w d s.below s.one s.ok1).mono ?_
  rintro en w' ⟨rfl, hb⟩
  exact ⟨by rw [List.append_nil, List.length_map, e1], hb⟩
theorem GSt.rec2 (P : P15J W Jn) (s : GSt Jn W lo h g e a1 a2 K p1 p2 n1 n2 m1 [] w) :
    Calls Tryd.prog 32 #[.pointer (some ⟨a2, 0, none⟩)] w fun en w' => en = .returned (.int .i64 (n2 : Int)) ∧ Below w.heap.size w w' := by
  obtain ⟨N, d, F1, F2, l1, l2, e1, e2, e3, s⟩ := s
  refine (P.records F2 a2 _ w d s.below s.two s.ok2).mono ?_
  rintro en w' ⟨rfl, hb⟩
  exact ⟨by rw [List.append_nil, List.length_map, e2], hb⟩
theorem GSt.weak {K' : Nat} (s : GSt Jn W lo h g e a1 a2 K p1 p2 n1 n2 m1 m2 w) (hK : K ≤ K') : GSt Jn W lo h g e a1 a2 K' p1 p2 n1 n2 m1 m2 w := by
  obtain ⟨N, d, F1, F2, l1, l2, e1, e2, e3, s⟩ := s
  exact ⟨N, d, F1, F2, l1, l2, e1, e2, by omega, s⟩
theorem GSt.disk (P : P15J W Jn) (s : GSt Jn W lo h g e a1 a2 K p1 p2 n1 n2 m1 m2 w) :
    Calls Tryd.prog 20 #[.pointer (some ⟨h, 0, none⟩)] w fun en w' => ∃ hd, en = .returned (.pointer (some ⟨hd, 0, none⟩)) ∧ w'.heap[hd]? = some (.cells #[.pointer (some ⟨g, 0, none⟩)] 86) ∧ Below w.heap.size w w' ∧ GSt Jn W lo h g e a1 a2 K p1 p2 n1 n2 m1 m2 w' := by
  refine (disk_any h g w (row_cells s.hand 0)).mono ?_
  rintro en w' ⟨rfl, rfl⟩
  exact ⟨_, rfl, heap_alloc_new _ _, below1 _ _, s.then_ P (below1 _ _)⟩
/-- Both journals have just been made. -/
theorem GSt.start (P : P15J W Jn) (he : jOk e) {w2 w3 w4 w5 : World} {F1 F2 : List Nat} {hd1 hd2 : Nat} (hlo : W.heap.size ≤ lo) (hW : Below W.heap.size W w2) (hx : w2.heap[h]? = some (.cells #[.pointer (some ⟨g, 0, none⟩)] 79)) (hbx : BoxAt w2 lo g (Dk.new 40) 0) (hd1e : w2.heap.size ≤ hd1)
    (h23 : Below w2.heap.size w2 w3) (j1 : Jn w3 F1 a1 ⟨g, 1, 2, e, [], false⟩) (f1 : ∀ b ∈ F1, b = hd1 ∨ w2.heap.size ≤ b) (h34 : Below w3.heap.size w3 w4) (hd2e : w3.heap.size ≤ hd2) (h45 : Below w4.heap.size w4 w5) (j2 : Jn w5 F2 a2 ⟨g, 3, 1, e, [], false⟩) (f2 : ∀ b ∈ F2, b = hd2 ∨ w4.heap.size ≤ b) :
    GSt Jn W lo h g e a1 a2 0 (.slice none 0 0) (.slice none 0 0) 0 0 [] [] w5 := by
  have h35 := below_then h34 h45
  have h25 := below_then h23 h35
  have g1 : ∀ b ∈ F1, w2.heap.size ≤ b := fun b k => by rcases f1 b k with k1 | k1 <;> omega
  have g2 : ∀ b ∈ F2, w3.heap.size ≤ b := fun b k => by
    have := h34.size
    rcases f2 b k with k1 | k1 <;> omega
  have hz : ∀ q, ¬ stampIs ((Dk.new 40).look q) e := fun q => zero_stamp he
  refine ⟨0, Dk.new 40, F1, F2, [], [], rfl, rfl, Nat.zero_le _, ?_⟩
  exact { box := (((hbx.off (fun y => w2.heap.size ≤ y) (fun y k => k)).offs (fun y k => .inl (by rcases k with k | k; exact g1 y k; exact Nat.le_trans h23.size (g2 y k)))).then_ h25)
          hand := (h25.block _ (lt_of_block hx)).trans hx
          gg := rfl
          one := P.keep j1 fun b k => h35.block b (P.lt j1 b k).2
          two := j2
          apart := fun b k1 k2 => by
            have := (P.lt j1 b k1).2
            have := g2 b k2
            omega
          nh := ⟨fun k => by
            have := g1 _ k
            have := lt_of_block hx
            omega, fun k => by
            have := g2 _ k
            have := lt_of_block hx
            have := h23.size
            omega⟩
          below := hW.trans (h25.mono (hW.size))
          hlo := hlo
          live := ⟨Dk.new_ok 40, rfl, rfl⟩
          allB := Dk.allB.new 40
          ok1 := ⟨he, by show 8 * 1 + 8 * 2 ≤ 40; omega, by show 40 ≤ 524288; omega, by show 0 ≤ _; omega, fun r hr => by simp at hr⟩
          ok2 := ⟨he, by show 8 * 3 + 8 * 1 ≤ 40; omega, by show 40 ≤ 524288; omega, by show 0 ≤ _; omega, fun r hr => by simp at hr⟩
          up1 := rfl
          up2 := rfl
          n1 := JN.new fun q _ => hz _
          n2 := JN.new fun q _ => hz _
          away := .inl (by show 8 * 1 + 8 * 2 ≤ 8 * 3; omega)
          put1 := Put.nil _ _ _
          put2 := Put.nil _ _ _
          off1 := fun y hy => by cases hy
          off2 := fun y hy => by cases hy }
end
end Go.Proofs.YtophhnolnlbecaaDoor
