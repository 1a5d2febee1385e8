/- The contract of Sort: no statement is proved here. -/
import Derived.Test.YtlmlehjfockkpaaDoorSort
import Derived.Laws.AppendOwnNone
namespace Go.Proofs.YtlmlehjfockkpaaDoor
open Go.RowKit
set_option maxRecDepth 100000

def SortsTo (n : Nat) (l : List T) (w : World) (e : Ending) (w' : World) : Prop :=
  ∃ a c, e = .returned (.slice a n c) ∧ w'.ownsRow w.heap.size 25 5 (.slice a n c) n ((sortG cmpT l).flatMap T.cells) ∧ n ≤ c ∧ c ≤ 9223372036854775807 ∧ (a = none → c = 0) ∧ Below w.heap.size w w'
theorem slice_of {w : World} {B n : Nat} {v : Value} {xs : List Value} (h : w.ownsRow B 25 5 v n xs) : ∃ a c, v = .slice a n c ∧ n ≤ c ∧ c ≤ 9223372036854775807 ∧ (a = none → c = 0) := by
  obtain ⟨_, h2⟩ := h
  rcases h2 with ⟨rfl, rfl, _⟩ | ⟨g, cap, cur, rfl, hb, hg, hkc, hm, _⟩
  · exact ⟨none, 0, rfl, by omega, by omega, fun _ => rfl⟩
  · exact ⟨some ⟨g, 0, none⟩, cap, rfl, hkc, by unfold maxLen at hm; omega, by simp⟩
theorem InL.take {w : World} {a : Option Addr} {l : List T} (h : InL w a l) (k : Nat) : InL w a (l.take k) := by
  intro p hp
  obtain ⟨j, y, hy, hp⟩ := (T.mem_placesL _ _ _ _).1 hp
  rw [List.getElem?_take] at hy
  split at hy
  · exact h p ((T.mem_placesL _ _ _ _).2 ⟨j, y, hy, hp⟩)
  · cases hy
theorem InL.drop {w : World} {b o : Nat} {l : List T} (h : InL w (some ⟨b, o, none⟩) l) (k : Nat) : InL w (some ⟨b, o + k * 5, none⟩) (l.drop k) := by
  intro p hp
  obtain ⟨j, y, hy, hp⟩ := (T.mem_placesL _ _ _ _).1 hp
  rw [List.getElem?_drop] at hy
  refine h p ((T.mem_placesL _ _ _ _).2 ⟨k + j, y, hy, ?_⟩)
  rcases hp with hp | hp
  · left
    obtain ⟨i, c, hc, rfl⟩ := mem_laid.1 hp
    refine mem_laid.2 ⟨i, c, hc, ?_⟩
    simp only [at_, Nat.zero_add, Nat.add_mul]
    congr 2
    omega
  · exact .inr hp
theorem InL.inn_mem {w : World} {a : Option Addr} {l : List T} (h : InL w a l) {x : T} (hx : x ∈ l) : x.In w := by
  obtain ⟨i, hi⟩ := List.getElem?_of_mem hx
  exact (h.elem hi).choose_spec.choose_spec.2.2
theorem row_base {w : World} {B B' : Nat} {e : TypeId} {c n : Nat} {v : Value} {xs : List Value} (h : w.ownsRow B e c v n xs) (hB : B' ≤ B) : w.ownsRow B' e c v n xs := by
  have h1 : Owns w B [⟨e, c, v, n, xs⟩] := fun r hr => by simp at hr; subst hr; exact h
  exact h1.base hB ⟨e, c, v, n, xs⟩ (by simp)
theorem sortG_small {α : Type} (f : α → α → Int) (l : List α) (h : l.length < 2) : sortG f l = l := by rw [sortG, dif_pos h]
theorem sortG_mem {α : Type} {f : α → α → Int} {l : List α} {x : α} : x ∈ sortG f l ↔ x ∈ l := (sortG_perm f _ l (Nat.le_refl _)).mem_iff

set_option maxHeartbeats 4000000 in
theorem sorted_small (la : Option Addr) (ca n : Nat) (l : List T) (w : World) (hn : l.length = n) (hm : n < 2) (hl : InL w la l) (hca : n ≤ ca) (hno : la = none → ca = 0) :
    Calls Tryd.prog 63 #[.slice la n ca, .func (.func 21) #[] #[]] w (SortsTo n l w) := by
  obtain ⟨i0, hi0, hz0, hz1, hz2⟩ := info_parts info_value
  have I0 := Lib.hid (And.intro hi0 (And.intro hz0 (And.intro hz1 hz2)))
  clear hi0 hz0 hz1 hz2
  have key : ∀ v' w1, w1.ownsRow w.heap.size 25 5 v' (0 + n) ([] ++ l.flatMap T.cells) → Below w.heap.size w w1 → SortsTo n l w (.returned v') w1 := fun v' w1 h hb => by
    rw [Nat.zero_add, List.nil_append] at h
    obtain ⟨a, c, rfl, h1, h2, h3⟩ := slice_of h
    exact ⟨a, c, rfl, by rw [sortG_small _ _ (by omega)]; exact h, h1, h2, h3, hb⟩
  replace key := Lib.hid key
  have HN := Lib.hid hn
  have HL := Lib.hid hl
  rcases la with _ | ad
  · have hc0 := hno rfl
    subst hc0
    have hn0 : n = 0 := by omega
    subst hn0
    clear hn hl hca hno
    go_enter Tryd.func63, Tryd.ntmps63
    go_wp2_with (at_builtin; refine wpList_append_own_none rfl (.const (.slice none 0 0)) (.tmp 9) 22 rfl w.heap.size 25 i0 5 Tryd.underlying22 I0.out.1 (.slice none 0 0) 0 [] rfl (World.ownsRow_nil _ _ _ _) rfl ?_)
    go_ret
    exact key.out _ _ (by rw [List.eq_nil_of_length_eq_zero HN.out]; exact World.ownsRow_nil _ _ _ _) (Below.refl _ _)
  · clear hn hl hno
    go_enter Tryd.func63, Tryd.ntmps63
    go_wp2_with (at_builtin; refine wpList_append_own _ rfl (.const (.slice none 0 0)) (.tmp 9) 22 rfl w.heap.size 25 i0 _ 5 80 Tryd.underlying22 I0.out.1 I0.out.2.1 I0.out.2.2.1 I0.out.2.2.2 rfl (by decide) (.slice none 0 0) 0 [] rfl (World.ownsRow_nil _ _ _ _) ad n ca (l.flatMap T.cells) rfl (by rw [flat_len, HN.out]) (HL.out.cells ad rfl) (cells_one _) (by unfold maxLen; omega) (by omega) (Nat.le_refl _) ?_; intro v' w1 own1 grow1 _; have O1 := Lib.hid own1; have G1 := Lib.hid grow1; clear own1 grow1)
    go_ret
    exact key.out _ _ O1.out ((Below.refl _ _).grown G1.out (Nat.le_refl _) (by simp [Value.ownBlock]))

set_option maxHeartbeats 4000000 in
theorem sorted_any (m : Nat) : ∀ (la : Option Addr) (ca n : Nat) (l : List T) (w : World), l.length = n → n ≤ m → InL w la l → n ≤ ca → ca ≤ 9223372036854775807 → (la = none → ca = 0) → (∀ x ∈ l, x.ok) → n * 80 ≤ 140737488351232 →
    Calls Tryd.prog 63 #[.slice la n ca, .func (.func 21) #[] #[]] w (SortsTo n l w) := by
  induction m with
  | zero =>
    intro la ca n l w hn hm hl hca hcm hno hok hb
    exact sorted_small la ca n l w hn (by omega) hl hca hno
  | succ m ih =>
    intro la ca n l w hn hm hl hca hcm hno hok hb
    by_cases h2 : n < 2
    · exact sorted_small la ca n l w hn h2 hl hca hno
    obtain ⟨b, o, rfl⟩ : ∃ b o, la = some ⟨b, o, none⟩ := by
      obtain ⟨b, o, -, -, -, -, -, -, -, -, -, h, -⟩ := hl.five (i := 0) (by omega)
      exact ⟨b, o, h⟩
    have H1 := Lib.hid (fun w1 (h : Below w.heap.size w w1) => ih (some ⟨b, o, none⟩) ca (n / 2) (l.take (n / 2)) w1 (by simp; omega) (by omega) ((hl.take _).then_ h) (by omega) hcm (by simp) (fun x hx => hok x (List.mem_of_mem_take hx)) (by omega))
    have H2 := Lib.hid (fun w1 (h : Below w.heap.size w w1) => ih (some ⟨b, o + n / 2 * 5, none⟩) (ca - n / 2) (n - n / 2) (l.drop (n / 2)) w1 (by simp; omega) (by omega) ((hl.drop _).then_ h) (by omega) (by omega) (by simp) (fun x hx => hok x (List.mem_of_mem_drop hx)) (by omega))
    have HN := Lib.hid hn
    have HL := Lib.hid hl
    have HK := Lib.hid hok
    clear ih hn hl hno hok
    have hne : ¬ ca = n / 2 := by omega
    have hj1 : (0 : Int) ≤ (n : Int) / 2 := by omega
    have hj2 : (n : Int) / 2 ≤ (n : Int) := by omega
    have hj3 : (n : Int) / 2 ≤ (ca : Int) := by omega
    have hj4 : ((n : Int) / 2).toNat = n / 2 := by omega
    go_enter Tryd.func63, Tryd.ntmps63
    go_wp2_with fail
    go_region_law (first | (refine step_enter rfl 63 #[.slice (some ⟨b, o, none⟩) (n / 2) ca, .func (.func 21) #[] #[]] (by go_simp) ((H1.out _ (by exact (Below.refl _ w).drew)).mono ?_); rintro e w1 ⟨a1, c1, rfl, r1, p1, p2, p3, b1'⟩; have b1 : Below w.heap.size w w1 := ⟨b1'.os, b1'.tape, b1'.output, b1'.size, b1'.block⟩; have R1 := Lib.hid (And.intro r1 (And.intro p1 (And.intro p2 p3))); have HB1 := Lib.hid b1; clear r1 p1 p2 p3 b1' b1; refine ⟨_, rfl, ?_⟩) | (refine step_enter rfl 63 #[.slice (some ⟨b, o + n / 2 * 5, none⟩) (n - n / 2) (ca - n / 2), .func (.func 21) #[] #[]] (by go_simp) ((H2.out _ HB1.out).mono ?_); rintro e w2 ⟨a2, c2, rfl, r2, p1, p2, p3, b2⟩; have R2 := Lib.hid (And.intro r2 (And.intro p1 (And.intro p2 p3))); have HB2 := Lib.hid b2; clear r2 p1 p2 p3 b2; refine ⟨_, rfl, ?_⟩) | (refine step_enter rfl 83 #[.slice a1 (n / 2) c1, .slice a2 (n - n / 2) c2, .func (.func 21) #[] #[]] (by go_simp) ?_; have hx : (sortG cmpT (l.take (n / 2))).length = n / 2 := (by rw [sortG_len]; have := HN.out; simp; omega); have hy : (sortG cmpT (l.drop (n / 2))).length = n - n / 2 := (by rw [sortG_len]; have := HN.out; simp; omega); have HM := merged_any a1 a2 c1 c2 (sortG cmpT (l.take (n / 2))) (sortG cmpT (l.drop (n / 2))) w2 (own_inL (by rw [hx]; exact row_keep R1.out.1 HB2.out) (fun x hx => ((HL.out.take _).inn_mem (sortG_mem.1 hx)).then_ (below_then HB1.out HB2.out))) (own_inL (by rw [hy]; exact R2.out.1) (fun x hx => ((HL.out.drop _).inn_mem (sortG_mem.1 hx)).then_ (below_then HB1.out HB2.out))) (by rw [hx]; exact R1.out.2) (by rw [hy]; exact R2.out.2) (fun x hx => HK.out x (List.mem_of_mem_take (sortG_mem.1 hx))) (fun x hx => HK.out x (List.mem_of_mem_drop (sortG_mem.1 hx))) (by rw [hx, hy]; omega); rw [hx, hy] at HM; refine HM.mono ?_; rintro e w3 ⟨rfl, r3, b3⟩; rw [hx, hy] at r3 ⊢; have R3 := Lib.hid r3; have HB3 := Lib.hid b3; clear r3 b3 hx hy HM; refine ⟨_, rfl, ?_⟩))
    all_goals
      go_wp2_with fail
      go_ret
      have hnn : n / 2 + (n - n / 2) = n := by omega
      have h3 := R3.out
      rw [hnn] at h3 ⊢
      have hn := HN.out
      have he : sortG cmpT l = mergeG cmpT (sortG cmpT (l.take (n / 2))) (sortG cmpT (l.drop (n / 2))) := by
        conv => lhs; rw [sortG, dif_neg (by omega)]
        rw [hn]
      exact ⟨some ⟨w2.heap.size, 0, none⟩, n, rfl, by rw [he]; exact row_base h3 (below_then HB1.out HB2.out).size, Nat.le_refl _, by omega, by simp, below_then (below_then HB1.out HB2.out) HB3.out⟩

/-- Sort yields the same values in their order, in memory of its own. -/
def SortTo (l : List T) (w : World) (e : Ending) (w' : World) : Prop :=
  ∃ a c ts, e = .returned (.slice a l.length c) ∧ ts.map T.val = sortG cmpV (l.map T.val) ∧ OwnL w' w.heap.size a c ts ∧ Below w.heap.size w w'
theorem own_sorted {w w1 w2 : World} {a a' : Option Addr} {c c' : Nat} {ts : List T} (h : OwnL w1 w.heap.size a c ts) (hz : w.heap.size ≤ w1.heap.size) (hb : Below w1.heap.size w1 w2) (hr : w2.ownsRow w1.heap.size 25 5 (.slice a' ts.length c') ts.length ((sortG cmpT ts).flatMap T.cells))
    (h1 : ts.length ≤ c') (h2 : c' ≤ 9223372036854775807) (h3 : a' = none → c' = 0) : OwnL w2 w.heap.size a' c' (sortG cmpT ts) := by
  have hp := sortG_perm cmpT _ ts (Nat.le_refl _)
  have hlen := hp.length_eq
  have hpr : ((sortG cmpT ts).flatMap T.rows).Perm (ts.flatMap T.rows) := hp.flatMap_right _
  have ho : Owns w1 w.heap.size (ts.flatMap T.rows) := h.owns.tail
  refine ⟨by rw [hlen]; exact ⟨h1, h2⟩, by rw [hlen]; exact h.cap, h3, fun t ht => h.ok t (hp.mem_iff.1 ht), fun r hr' => ?_, ?_⟩
  · rcases List.mem_cons.1 hr' with rfl | hr'
    · rw [hlen]; exact row_base hr hz
    · exact (ho.below hb) r (hpr.mem_iff.1 hr')
  · have hnd : (blocksOf ((sortG cmpT ts).flatMap T.rows)).Nodup := (hpr.filterMap _).nodup_iff.2 (h.nodup.sublist (blocks_sub (List.sublist_cons_self _ _)))
    have hlt := owns_lt ho
    unfold blocksOf
    rw [List.filterMap_cons]
    cases hv : (Value.slice a' (sortG cmpT ts).length c').ownBlock with
    | none => exact hnd
    | some g =>
      refine List.nodup_cons.2 ⟨fun hc => ?_, hnd⟩
      have hc2 : g ∈ blocksOf (ts.flatMap T.rows) := (hpr.filterMap _).mem_iff.1 hc
      rw [hlen] at hv
      have h4 := hr.lt g hv
      have h5 := hlt g hc2
      omega

theorem sort_any (la : Option Addr) (ca : Nat) (l : List T) (w : World) (hl : InL w la l) (hb : l.length * 80 ≤ 140737488351232) (hok : ∀ x ∈ l, x.ok) :
    Calls Tryd.prog 31 #[.slice la l.length ca] w (SortTo l w) := by
  have HC := Lib.hid (cloneList_any la ca l w hl hb hok (fun x hx => clone_any x (hok x hx)))
  clear hl hok
  go_enter Tryd.func31, Tryd.ntmps31
  go_wp2_with fail
  refine HC.out.mono ?_
  rintro e w1 ⟨a, c, ts, rfl, hv, ho, b1⟩
  have hlen : ts.length = l.length := by simpa using congrArg List.length hv
  have hS := sorted_any ts.length a c l.length ts w1 hlen (by omega) (own_inL (by have := ho.owns.head; exact this) (fun x hx => owns_in x (fun r hr => ho.owns r (List.mem_cons_of_mem _ (List.mem_flatMap.2 ⟨x, hx, hr⟩))))) (by rw [← hlen]; exact ho.len.1) ho.len.2 ho.nil ho.ok (by omega)
  have HS := Lib.hid hS
  have HV := Lib.hid hv
  have HO := Lib.hid ho
  have HB := Lib.hid b1
  have HL := Lib.hid hlen
  clear hv ho b1 hS hlen
  go_wp2_with fail
  refine HS.out.mono ?_
  rintro e w2 ⟨a2, c2, rfl, r2, p1, p2, p3, b2⟩
  have hR := own_sorted HO.out HB.out.size b2 (by rw [HL.out]; exact r2) (by rw [HL.out]; exact p1) p2 p3
  have HR := Lib.hid hR
  have HB2 := Lib.hid b2
  clear r2 p1 p2 p3 b2 hR
  go_wp2_with fail
  go_ret
  refine ⟨a2, c2, sortG cmpT ts, rfl, ?_, HR.out, below_then HB.out HB2.out⟩
  have := sortG_map cmpV T.val _ ts (Nat.le_refl _)
  rw [HV.out] at this
  exact this
end Go.Proofs.YtlmlehjfockkpaaDoor
