/- Where JournalBack stands. No statement is proved here. -/
import Derived.Test.YtophhnolnlbecaaDoorQ36
namespace Go.Proofs.YtophhnolnlbecaaDoor
open Go.RowKit
set_option maxRecDepth 100000

/-- The first rows of a row of rows. -/
theorem run_slHR (a : Option Addr) (n c j : Nat) (hi : Int) (hhi : hi = j) (hj : j ≤ c) (w : World) : (Instr.slice 30 (.slice a n c) none (some (.int .i64 hi)) none).run Tryd.prog w = .ok (.slice a j c) w := by
  subst hhi
  have e2 : (j : Int).toNat = j := by omega
  rw [run_slice_h w 30 _ _ _ (by kernel_rfl) .i64 _ (by omega) (by omega)]
  rw [show sizeOf (Tryd.prog.elem 30) = sizeOf 22 from rfl]
  cases a with
  | none => simp [go_sem, sliced, e2]
  | some ad =>
    obtain ⟨b, o, sp⟩ := ad
    simp [go_sem, sliced, e2]
    try (intro h; omega)
/-- In how many sectors the first records end. -/
def endsOf (e : Int) (rs : List (List Int)) : List Int := (List.range rs.length).map fun i => ((((strmK e rs (i + 1)).length + 503) / 504 : Nat) : Int)
theorem endsOf_len (e : Int) (rs : List (List Int)) : (endsOf e rs).length = rs.length := by unfold endsOf; rw [List.length_map, List.length_range]
theorem endsOf_snoc (e : Int) (rs : List (List Int)) (r : List Int) : endsOf e (rs ++ [r]) = endsOf e rs ++ [((((strmK e (rs ++ [r]) (rs ++ [r]).length).length + 503) / 504 : Nat) : Int)] := by
  unfold endsOf
  rw [List.length_append, List.length_singleton, List.range_succ, List.map_append, List.map_singleton]
  congr 1
  refine List.map_congr_left fun i hi => ?_
  have := List.mem_range.1 hi
  rw [strmK_app e rs r (i + 1) (by omega)]
theorem endsOf_at {e : Int} {rs : List (List Int)} {i : Nat} (hi : i < rs.length) : (endsOf e rs)[i]? = some ((((strmK e rs (i + 1)).length + 503) / 504 : Nat) : Int) := by
  unfold endsOf
  rw [List.getElem?_map, List.getElem?_range hi]
  rfl
theorem catF_add (X : Nat → List Int) (n i : Nat) : ∀ c, catF X i (n + c) = catF X i n ++ catF X (i + n) c
  | 0 => by rw [Nat.add_zero]; exact (List.append_nil _).symm
  | c + 1 => by
    rw [show n + (c + 1) = (n + c) + 1 by omega, catF_snoc, catF_add X n i c, catF_snoc, List.append_assoc, show i + (n + c) = i + n + c by omega]
theorem catF_take {X : Nat → List Int} (hX : ∀ i, (X i).length = 512) {n m : Nat} (i : Nat) (h : n ≤ m) : (catF X i m).take (512 * n) = catF X i n := by
  rw [show m = n + (m - n) by omega, catF_add, List.take_left' (catF_len hX n i)]
theorem catF_byte2 {X : Nat → List Int} (hX : ∀ q, isB (X q)) : ∀ n i, isB (catF X i n)
  | 0, _ => isB.nil
  | n + 1, i => by rw [catF_snoc]; exact (catF_byte2 hX n i).append2 (hX _)
/-- A disk of forty sectors with one journal: q: what the law keeps of the ends. -/
def BSt (Jn : World → List Nat → Nat → JS → Prop) (W : World) (lo h g : Nat) (e : Int) (a : Nat) (p : Value) (n : Nat) (q : Value) (es : List Int) (rs m1 : List (List Int)) (w : World) : Prop :=
  ∃ N d F l, rs = l.map Prod.snd ++ m1 ∧ l.length = n ∧ N ≤ 24 * rs.length ∧ d.live ∧ JN 8 24 e rs d ∧ JM Jn W w lo h N d F [] a ⟨g, 1, 3, e, rs, false⟩ none p l q es
section
variable {Jn : World → List Nat → Nat → JS → Prop} {W w w' : World} {lo h g a n : Nat} {e : Int} {p q : Value} {es : List Int} {rs m1 : List (List Int)}
theorem BSt.then_ (P : P15J W Jn) (s : BSt Jn W lo h g e a p n q es rs m1 w) (hb : Below w.heap.size w w') : BSt Jn W lo h g e a p n q es rs m1 w' := by
  obtain ⟨N, d, F, l, e1, e2, e3, e4, e5, s⟩ := s
  exact ⟨N, d, F, l, e1, e2, e3, e4, e5, s.then_ P hb⟩
theorem BSt.below (s : BSt Jn W lo h g e a p n q es rs m1 w) : Below W.heap.size W w := by
  obtain ⟨N, d, F, l, e1, e2, e3, e4, e5, s⟩ := s
  exact s.below
theorem BSt.hand (s : BSt Jn W lo h g e a p n q es rs m1 w) : w.heap[h]? = some (.cells #[.pointer (some ⟨g, 0, none⟩)] 79) := by
  obtain ⟨N, d, F, l, e1, e2, e3, e4, e5, s⟩ := s
  exact s.hand
theorem BSt.few (s : BSt Jn W lo h g e a p n q es rs m1 w) : rs.length ≤ 604 ∧ n ≤ rs.length ∧ lo ≤ w.heap.size ∧ (strmK e rs rs.length).length ≤ 12096 := by
  obtain ⟨N, d, F, l, e1, e2, e3, e4, e5, s⟩ := s
  have h1 := s.ok.few.1
  have h2 := s.box.lt
  have h3 := s.ok.len
  unfold JS.len at h3
  dsimp only at h1 h2 h3
  refine ⟨by omega, ?_, by omega, h3⟩
  rw [e1, List.length_append, List.length_map]
  omega
theorem BSt.room (P : P15J W Jn) (s : BSt Jn W lo h g e a p n q es rs m1 w) :
    Calls Tryd.prog 21 #[.pointer (some ⟨a, 0, none⟩)] w fun en w' => en = .returned (.int .i64 (JS.room ⟨g, 1, 3, e, rs, false⟩)) ∧ Below w.heap.size w w' := by
  obtain ⟨N, d, F, l, e1, e2, e3, e4, e5, s⟩ := s
  exact P.room F a _ w d s.below s.one s.ok
theorem BSt.bytes (P : P15J W Jn) (s : BSt Jn W lo h g e a p n q es rs m1 w) :
    Calls Tryd.prog 24 #[.pointer (some ⟨a, 0, none⟩)] w fun en w' => en = .returned (.int .i64 (((strmK e rs rs.length).length : Nat) : Int)) ∧ Below w.heap.size w w' := by
  obtain ⟨N, d, F, l, e1, e2, e3, e4, e5, s⟩ := s
  exact P.bytes F a _ w d s.below s.one s.ok
theorem BSt.app (P : P15J W Jn) (s : BSt Jn W lo h g e a p n q es rs [] w) {x : Option Addr} {k c : Nat} {r : List Int} (hi : InB w x r) (hB : isB r) (hn : r.length = k) (h1 : k ≤ c) (h2 : c ≤ maxLen) (h3 : x = none → c = 0 ∧ r = []) :
    Calls Tryd.prog 22 #[.pointer (some ⟨a, 0, none⟩), .slice x k c] w fun en w' => (JS.room ⟨g, 1, 3, e, rs, false⟩ < (k : Int) ∧ en = .returned (errV 150) ∧ BSt Jn W lo h g e a p n q es rs [] w') ∨ (en = .returned .nilIface ∧ BSt Jn W lo h g e a p n q es (rs ++ [r]) [r] w') := by
  have hf := s.few.1
  obtain ⟨N, d, F, l, e1, e2, e3, e4, e5, s⟩ := s
  refine (s.app P hi hB hn h1 h2 h3 (by omega)).mono ?_
  rintro en w' (⟨hr, rfl, s'⟩ | ⟨-, hr, rfl, F', s'⟩)
  · refine .inl ⟨?_, rfl, N, d, F, l, e1, e2, e3, e4, e5, s'⟩
    rcases hr with hr | hr
    · cases hr
    · exact hr
  · have hl : (r.length : Int) ≤ JS.room ⟨g, 1, 3, e, rs, false⟩ := by rw [hn]; exact hr
    obtain ⟨z, hv⟩ := JS.app_live s.ok e4 hl
    have hN := JN.app (J := ⟨g, 1, 3, e, rs, false⟩) e5 s.ok hl z
    rw [z] at s' ⊢
    refine .inr ⟨rfl, _, _, F', l, ?_, e2, ?_, hv, hN, s'⟩
    · rw [e1, List.append_nil]
    · rw [List.length_append, List.length_singleton]
      show N + 8 * 3 ≤ _
      omega
theorem BSt.disk (P : P15J W Jn) (s : BSt Jn W lo h g e a p n q es rs m1 w) :
    Calls Tryd.prog 20 #[.pointer (some ⟨h, 0, none⟩)] w fun en w' => ∃ hd, en = .returned (.pointer (some ⟨hd, 0, none⟩)) ∧ w'.heap[hd]? = some (.cells #[.pointer (some ⟨g, 0, none⟩)] 86) ∧ BSt Jn W lo h g e a p n q es rs m1 w' := by
  refine (disk_any h g w (row_cells s.hand 0)).mono ?_
  rintro en w' ⟨rfl, rfl⟩
  exact ⟨_, rfl, heap_alloc_new _ _, s.then_ P (below1 _ _)⟩
/-- What was kept, as it lies. -/
theorem BSt.kept (s : BSt Jn W lo h g e a p n q es rs [] w) {pa : Option Addr} {pc : Nat} (hp : p = .slice pa n pc) : InRR w pa rs ∧ rs.length = n ∧ n ≤ pc := by
  obtain ⟨N, d, F, l, e1, e2, e3, e4, e5, s⟩ := s
  rw [List.append_nil] at e1
  obtain ⟨a', c', h1, h2, -⟩ := s.put.form
  rw [hp] at h1
  injection h1 with _ _ h1
  exact ⟨by rw [e1]; exact s.put.inRR s.below hp, by rw [e1, List.length_map, e2], by omega⟩
theorem BSt.read (P : P15J W Jn) (s : BSt Jn W lo h g e a p n q es rs [] w) {hd : Nat} (hh : w.heap[hd]? = some (.cells #[.pointer (some ⟨g, 0, none⟩)] 86)) :
    Calls Tryd.prog 25 #[.pointer (some ⟨hd, 0, none⟩), .int .i64 1, .int .i64 3, .int .i64 e] w fun en w' => ∃ a' c, en = .returned (.tuple #[.slice a' rs.length c, .nilIface]) ∧ InRR w' a' rs ∧ Below w.heap.size w w' := by
  obtain ⟨N, d, F, l, e1, e2, e3, e4, e5, s⟩ := s
  obtain ⟨q1, q2⟩ := JN.area (J := ⟨g, 1, 3, e, rs, false⟩) e5 s.ok e4.ok e4.up (by show 1 ≤ 3; omega)
  refine (s.read P hh q1).mono ?_
  rintro en w' ⟨a', c, rfl, hi, hb⟩
  rw [q2] at hi ⊢
  exact ⟨a', c, rfl, hi, hb⟩
/-- Both rows, and what comes of it when one grows. -/
theorem BSt.putAt (P : P15J W Jn) {r : List Int} (s : BSt Jn W lo h g e a p n q es rs [r] w) : ∃ l, Put W w lo p l ∧ l.length = n ∧ ∀ (v p' : Value) (w' : World), Put W w' lo p' (l ++ [(v, r)]) → w.grownBy w' p.ownBlock → (p'.ownBlock = p.ownBlock ∨ p'.ownBlock = some w.heap.size) → BSt Jn W lo h g e a p' (n + 1) q es rs [] w' := by
  obtain ⟨N, d, F, l, e1, e2, e3, e4, e5, s⟩ := s
  refine ⟨l, s.put, e2, fun v p' w' h1 h2 h3 => ⟨N, d, F, l ++ [(v, r)], ?_, ?_, e3, e4, e5, s.growP P h1 h2 h3⟩⟩
  · rw [e1, List.map_append, List.append_nil]
    rfl
  · rw [List.length_append, e2]
    rfl
theorem BSt.intsAt (P : P15J W Jn) (s : BSt Jn W lo h g e a p n q es rs m1 w) : OwnI w lo q es ∧ ∀ (q' : Value) (es' : List Int) (w' : World), GrewI lo w w' q q' es' → BSt Jn W lo h g e a p n q' es' rs m1 w' := by
  obtain ⟨N, d, F, l, e1, e2, e3, e4, e5, s⟩ := s
  exact ⟨s.ints, fun q' es' w' k => ⟨N, d, F, l, e1, e2, e3, e4, e5, s.growQ P k.own k.grow k.at_⟩⟩
theorem InI.one1 (w : World) (x : Int) : InI (w.alloc (.cells #[.int .i64 x] 3)) (some ⟨w.heap.size, 0, none⟩) [x] := fun i y hy => by
  refine ⟨w.heap.size, 0, rfl, ?_⟩
  match i, hy with
  | 0, hy =>
    injection hy with hy
    subst hy
    exact row_cells (heap_alloc_new _ _) 0
/-- The area's bytes, and what is found in their first sectors. -/
theorem BSt.area (s : BSt Jn W lo h g e a p n q es rs m1 w) :
    Calls Tryd.prog 26 #[.pointer (some ⟨h, 0, none⟩)] w fun en w' => ∃ v A, en = .returned v ∧ OwnB w' w.heap.size v A ∧ A.length = 12288 ∧ isB A ∧ (∀ c m, c ≤ 24 → m ≤ rs.length → (strmK e rs m).length ≤ 504 * c → (m = rs.length ∨ 504 * c < (strmK e rs (m + 1)).length) → (scanN (streamN e c (A.take (512 * c))) e).1 = rs.take m) ∧ Below w.heap.size w w' := by
  obtain ⟨N, d, F, l, e1, e2, e3, e4, e5, s⟩ := s
  have hX : ∀ i, ((fun q => d.look (8 + q)) i).length = 512 := fun i => e4.ok.look_len _
  refine (area_any h g N d _ w s.hand s.box ?_).mono ?_
  · have h1 := s.ok.fits
    dsimp only at h1
    omega
  rintro en w' ⟨v, rfl, ho, hb⟩
  refine ⟨v, _, rfl, ho, catF_len hX 24 0, catF_byte2 (fun q => s.allB.byte s.box.ok (8 + q)) 24 0, fun c m hc hm c1 c2 => ?_, hb⟩
  unfold jArea
  rw [catF_take hX 0 hc]
  have h := e5.some_ e4.ok s.ok.ep s.ok.few.2 (fun r hr => (s.ok.rows r hr).2) hc hm c1 c2
  rw [h]
end
end Go.Proofs.YtophhnolnlbecaaDoor
