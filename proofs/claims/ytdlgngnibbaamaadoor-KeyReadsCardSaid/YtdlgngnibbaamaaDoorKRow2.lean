/- The contract of keyenc's appendRow: no statement is proved here. -/
import Derived.Test.YtdlgngnibbaamaaDoorKRow
namespace Go.Proofs.YtdlgngnibbaamaaDoor
open Go.RowKit
set_option maxRecDepth 100000

/-- A row of bools stands at that place. -/
def InF (w : World) (a : Option Addr) (l : List Bool) : Prop := ∀ i x, l[i]? = some x → ∃ b o, a = some ⟨b, o, none⟩ ∧ w.cell? ⟨b, o + i, none⟩ = some (.bool x)
theorem InF.then_ {w w' : World} {a : Option Addr} {l : List Bool} (h : InF w a l) (hb : Below w.heap.size w w') : InF w' a l := fun i x hx => by
  obtain ⟨b, o, ha, hc⟩ := h i x hx
  exact ⟨b, o, ha, (hb.cell (cell_lt hc)).trans hc⟩
theorem keyR_append (d : List Bool) : ∀ (a : List V) (b : List V) (e : List Bool), a.length = d.length → keyR (a ++ b) (d ++ e) = keyR a d ++ keyR b e := by
  induction d with
  | nil => intro a b e h; have := List.eq_nil_of_length_eq_zero h; subst this; simp [keyR]
  | cons f d ih =>
    intro a b e h
    cases a with
    | nil => simp at h
    | cons x a => rw [List.cons_append, List.cons_append, keyR, keyR, ih a b e (by simpa using h), List.append_assoc]
theorem keyR_step {l : List V} {d : List Bool} {k : Nat} {x : V} {f : Bool} (hx : l[k]? = some x) (hf : d[k]? = some f) : keyR (l.take (k + 1)) (d.take (k + 1)) = keyR (l.take k) (d.take k) ++ (if f then flip (keyV x) else keyV x) := by
  have h1 := lt_of_get hx
  have h2 := lt_of_get hf
  rw [List.take_add_one, List.take_add_one, hx, hf, keyR_append _ _ _ _ (by rw [List.length_take, List.length_take]; omega)]
  simp [keyR]
theorem keyR_le (l : List V) (h : ∀ x ∈ l, (keyV x).length ≤ 196611) : ∀ d, (keyR l d).length ≤ l.length * 196611 := by
  induction l with
  | nil => intro d; simp [keyR]
  | cons x r ih =>
    intro d
    cases d with
    | nil => simp [keyR]
    | cons f d =>
      have h1 := h x (by simp)
      have h2 := ih (fun y hy => h y (by simp [hy])) d
      rw [keyR, List.length_append, List.length_cons]
      have h3 : (if f then flip (keyV x) else keyV x).length = (keyV x).length := by split <;> simp [flip]
      rw [h3]
      omega
theorem OwnB.form {w : World} {B : Nat} {v : Value} {l : List Int} (h : OwnB w B v l) (hl : 1 ≤ l.length) : ∃ g c, v = .slice (some ⟨g, 0, none⟩) l.length c ∧ l.length ≤ c := by
  obtain ⟨g, c, rfl, -, -⟩ := World.ownsRow.form h hl
  refine ⟨g, c, rfl, ?_⟩
  obtain ⟨h1, h2⟩ := h
  rcases h2 with ⟨hv, _⟩ | ⟨g', cap, cur, hv, _, _, hle, _⟩
  · cases hv
  · injection hv with _ _ e; omega

set_option maxHeartbeats 4000000 in
theorem appRow_any (B : Nat) (la : Option Addr) (ca : Nat) (l : List T) (lb : Option Addr) (cb : Nat) (d : List Bool) (w : World) (hB : B ≤ w.heap.size) (ha : InL w la l) (hf : InF w lb d) (hlow : ∀ p ∈ T.placesL la 0 l, p.1.block < B) (hlf : ∀ b o, lb = some ⟨b, o, none⟩ → 1 ≤ d.length → b < B)
    (hn : l.length ≤ 4) (hd : d.length = l.length) (hok : ∀ x ∈ l, x.ok) (hr : ∀ x ∈ l, rightOf x.val = 0) :
    Calls Tryd.prog 49 #[.slice none 0 0, .slice la l.length ca, .slice lb l.length cb] w fun e w' => ∃ v', e = .returned v' ∧ Grew B w w' (.slice none 0 0) v' (keyR (l.map T.val) d) := by
  have HA := Lib.hid (And.intro ha hlow)
  have HF := Lib.hid (And.intro hf hlf)
  have OK := Lib.hid (And.intro hok hr)
  have HK := Lib.hid (fun k => keyR_le ((l.map T.val).take k) (fun x hx => by obtain ⟨y, hy, rfl⟩ := List.mem_map.1 (List.mem_of_mem_take hx); exact key_short (hr y hy)) (d.take k))
  clear ha hlow hf hlf hok hr
  go_enter Tryd.func49, Tryd.ntmps49
  go_wp2_with fail
  go_loopw [0, 12] (fun u i wr => ∃ k : Nat, k ≤ l.length ∧ i = .int .i64 k ∧ Grew B w wr (.slice none 0 0) u (keyR ((l.map T.val).take k) (d.take k))) (fun _ i _ => l.length - (intOf i).toNat)
  case atStart => exact ⟨0, by omega, rfl, by simpa [keyR] using Grew.refl (OwnB.nil _ _)⟩
  case round =>
    obtain ⟨k, hk, rfl, hg⟩ := hrel
    have HG := Lib.hid hg
    have hz := Nat.le_trans hB hg.size
    have hbel := hg.below0 (OwnB.nil _ _) hB
    have hin := HA.out.1.low HA.out.2 hbel
    by_cases h1 : k < l.length
    · obtain ⟨b, o, k1, n1, s1, la1, lc1, l1, da1, dc1, d1, rfl, hx, hix, x0, x1, x2, x3, x4⟩ := hin.five h1
      obtain ⟨f, hfx⟩ : ∃ f, d[k]? = some f := ⟨_, List.getElem?_eq_getElem (by omega)⟩
      obtain ⟨b2, o2, rfl, hc2⟩ := HF.out.1 k f hfx
      have hb2 := HF.out.2 b2 o2 rfl (by omega)
      have hvx : (l.map T.val)[k]? = some (T.val (.mk k1 n1 s1 la1 lc1 l1 da1 dc1 d1)) := by rw [List.getElem?_map, hx]; rfl
      have HS := Lib.hid (keyR_step hvx hfx)
      have hxm := List.mem_of_getElem? hx
      have hkl := HK.out k
      rw [List.length_take, List.length_map, Nat.min_eq_left hk] at hkl
      have hks := key_short (OK.out.2 _ hxm)
      have hap : AppAt (.mk k1 n1 s1 la1 lc1 l1 da1 dc1 d1) := appVal_any _ (OK.out.1 _ hxm)
      unfold AppAt at hap
      replace hap := fun v l w h1 h2 h3 h4 => hap B v l w h1 h2 h3 h4 (fun p (hp : p ∈ T.places (.mk k1 n1 s1 la1 lc1 l1 da1 dc1 d1)) => HA.out.2 p ((T.mem_placesL _ _ _ _).2 ⟨k, _, hx, .inr hp⟩))
      have H := Lib.hid hap
      clear hap
      have HX := Lib.hid (And.intro hix hbel)
      have HQ := Lib.hid (isB_keyV (T.val (.mk k1 n1 s1 la1 lc1 l1 da1 dc1 d1)))
      have hq1 := keyV_ne (T.val (.mk k1 n1 s1 la1 lc1 l1 da1 dc1 d1))
      obtain ⟨a, c, rfl, -, -, -, -⟩ := hg.own.shape
      generalize keyR ((l.map T.val).take k) (d.take k) = p at *
      generalize keyV (T.val (.mk k1 n1 s1 la1 lc1 l1 da1 dc1 d1)) = q at *
      have hcd : ∀ w1, Below B w w1 → w1.cell? ⟨b2, o2 + k, none⟩ = some (.bool f) := fun w1 h => (h.cell hb2).trans hc2
      clear hx hix hin hvx hg hfx hxm hc2
      cases f
      all_goals go_wp2_with (first
        | (go_at_call 80; go_loud (refine (H.out _ _ (wr.alloc _) ?_ (HG.out.own.alloc _) ?_ ?_).mono ?_); (exact Nat.le_trans hz (below1 _ _).size); omega; (exact HX.out.1.then_ (below1 _ _)); rintro e w2 ⟨v2, rfl, hg2⟩; have e2 := HG.out.trans (hg2.pre (below1 _ _)); have bb := e2.below0 (OwnB.nil _ _) hB; have cd := hcd _ bb; have G2 := Lib.hid e2; have R2 := Lib.hid (hg2.row (heap_alloc_new wr _) HG.out.own.behind); obtain ⟨g, c2, rfl, hc2⟩ := e2.own.form (by rw [List.length_append]; omega); rw [List.length_append] at hc2; have hcc : p.length < c2 := (by omega); have hce : ¬ c2 = p.length := (by omega); have T2 := Lib.hid (turn_any B g (p ++ q).length c2 (c2 - p.length) p q w2 e2.own HQ.out (by omega)); clear hg2 e2)
        | (go_at_call 81; refine T2.out.mono ?_; rintro e w3 ⟨⟨u, rfl⟩, ho3, hg3⟩; have G3 := Lib.hid (G2.out.trans (Grew.mk ho3 hg3 (.inl rfl))); clear ho3 hg3))
      · go_roundw
        case rel =>
          have h := G2.out
          rw [List.length_append] at h
          exact ⟨k + 1, by omega, by go_num, by rw [HS.out]; simpa using h⟩
        case measure => simp [intOf]; omega
      · go_roundw
        case rel =>
          have h := G3.out
          rw [List.length_append] at h
          exact ⟨k + 1, by omega, by go_num, by rw [HS.out]; simpa using h⟩
        case measure => simp [intOf]; omega
    · have e := HG.out
      rw [List.take_of_length_le (by rw [List.length_map]; omega), List.take_of_length_le (by omega)] at e
      have E := Lib.hid e
      clear e hg hin hbel
      go_wp2_with fail
      go_ret
      exact ⟨_, rfl, E.out⟩
end Go.Proofs.YtdlgngnibbaamaaDoor
