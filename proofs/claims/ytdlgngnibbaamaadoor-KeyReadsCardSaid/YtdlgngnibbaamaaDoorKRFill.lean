/- The contracts of keyenc's fill, number, readNumber and readId: no statement is proved here. -/
import Derived.Test.YtdlgngnibbaamaaDoorKRText
import Derived.Test.YtdlgngnibbaamaaDoorKNum
import Derived.Lib.EndianBits
namespace Go.Proofs.YtdlgngnibbaamaaDoor
open Go.RowKit
set_option maxRecDepth 100000

/-- So many bytes were laid into a row. -/
structure FillAt (w wr : World) (B g n : Nat) (T : TypeId) (K : Ctx) (R : List Int) (cs : List Value) (k : Nat) : Prop where
  row : wr.heap[g]? = some (.cells (btV (R.take k) ++ cs.drop k).toArray T (0, 0))
  src : Src wr B K (R.drop k)
  only : Only [B + 1, g] w wr
  le : k ≤ R.length
  len : cs.length = n
  off : B + 3 ≤ g
def FillsTo (R : List Int) (B g n : Nat) (T : TypeId) (K : Ctx) (w : World) (e : Ending) (w' : World) : Prop :=
  ∃ ok R', e = .returned (.bool ok) ∧ Src w' B K R' ∧ Only [B + 1, g] w w' ∧ R'.length ≤ R.length ∧ ((ok = true ∧ ∃ q, q.length = n ∧ R = q ++ R' ∧ w'.heap[g]? = some (.cells (btV q).toArray T (0, 0))) ∨ (ok = false ∧ R.length < n))
theorem Only.sub {S S' : List Nat} {a b : World} (h : Only S a b) (hs : ∀ k ∈ S, k ∈ S') : Only S' a b := h.mono fun k hk => .inl (hs k hk)
theorem FillAt.step {w wr w1 : World} {B g n k : Nat} {T : TypeId} {K : Ctx} {R : List Int} {cs : List Value} {x : Int} {r : List Int} (h : FillAt w wr B g n T K R cs k) (hx : R.drop k = x :: r) (hs : Src w1 B K r) (ho : Only [B + 1] wr w1) (hk : k < n) : FillAt w (w1.setCell ⟨g, k, none⟩ (.int .u8 x)) B g n T K R cs (k + 1) := by
  have hx2 : R[k]? = some x := by have := congrArg (·[0]?) hx; simpa using this
  have hr : R.drop (k + 1) = r := by rw [← List.tail_drop, hx]; rfl
  have hrow : w1.heap[g]? = some (.cells (btV (R.take k) ++ cs.drop k).toArray T (0, 0)) := keep_row ho h.row (by have := h.off; simp; omega)
  have hlt := lt_of_get hx2
  refine ⟨?_, ?_, ?_, hlt, h.len, h.off⟩
  · rw [heap_setCell_same _ _ _ _ _ _ hrow]
    congr 2
    apply Array.ext'
    have hl : k < cs.length := by rw [h.len]; exact hk
    rw [Array.toList_setIfInBounds]
    simp only []
    have e : (btV (R.take k)).length = k := by rw [btV_len, List.length_take]; omega
    rw [List.set_append_right _ _ (by omega), e, Nat.sub_self, List.drop_eq_getElem_cons hl, List.set_cons_zero, List.take_add_one, hx2, btV_append]
    simp [btV]
  · rw [hr]
    exact hs.only ((Only.refl [g] w1).setCell (.inl (by simp)) _) (by have := h.off; simp; omega)
  · exact (h.only.trans (ho.sub (by simp))).trans ((Only.refl [B + 1, g] w1).setCell (.inl (by simp)) _)

set_option maxHeartbeats 4000000 in
theorem fill_any (w : World) (B g n : Nat) (T : TypeId) (K : Ctx) (R : List Int) (cs : List Value) (h : Src w B K R) (hg : w.heap[g]? = some (.cells cs.toArray T (0, 0))) (hn : cs.length = n) (hoff : B + 3 ≤ g) (hnn : n ≤ 100) :
    Calls Tryd.prog 133 #[nextF B, .slice (some ⟨g, 0, none⟩) n n] w (FillsTo R B g n T K w) := by
  show Calls _ _ #[.func (.func 84) #[] #[.pointer (some ⟨B + 1, 0, none⟩), .pointer (some ⟨B, 0, none⟩), .pointer (some ⟨B + 2, 0, none⟩)], .slice (some ⟨g, 0, none⟩) n n] _ _
  have HS := Lib.hid (show FillAt w w B g n T K R cs 0 from ⟨by simpa [btV] using hg, h, Only.refl _ _, by omega, hn, hoff⟩)
  clear h hg hn hoff
  go_enter Tryd.func133, Tryd.ntmps133
  go_wp2_with fail
  go_loopw [9] (fun i wr => ∃ k : Nat, k ≤ n ∧ i = .int .i64 k ∧ FillAt w wr B g n T K R cs k) (fun i _ => n - (intOf i).toNat)
  case atStart => exact ⟨0, by omega, rfl, HS.out⟩
  case round =>
    obtain ⟨k, hk, rfl, hF⟩ := hrel
    have HF := Lib.hid hF
    clear hF
    by_cases h1 : k < n
    · rcases hR : R.drop k with _ | ⟨x, r⟩
      · have HR := Lib.hid hR
        clear hR
        go_wp2_with (first | (go_at_call 84; refine (next_any wr B K _ HF.out.src).mono ?_; rw [HR.out]; rintro e w1 ⟨rfl, hs1, ho1⟩; have S1 := Lib.hid (And.intro hs1 ho1); clear hs1 ho1; simp only [List.headD_nil]))
        go_ret
        refine ⟨false, [], rfl, S1.out.1, HF.out.only.trans (S1.out.2.sub (by simp)), by simp, .inr ⟨rfl, ?_⟩⟩
        have := List.drop_eq_nil_iff.1 HR.out
        omega
      · have hx := HF.out.src.isB x (by rw [hR]; simp)
        obtain ⟨x0, x1⟩ := hx
        have HR := Lib.hid hR
        clear hR
        have hxw : x % 256 = x := by omega
        have hxn : ¬ x < 0 := by omega
        go_wp2_with (first | (go_at_call 84; refine (next_any wr B K _ HF.out.src).mono ?_; rw [HR.out]; rintro e w1 ⟨rfl, hs1, ho1⟩; have r1 := keep_row ho1 HF.out.row (by have := HF.out.off; simp; omega); have f1 : w1.frozen? ⟨g, k, none⟩ = false := frozen_of_row _ _ _ _ _ r1; have c1 : ∃ v, w1.cell? ⟨g, k, none⟩ = some v := ⟨_, (row_cells r1 k).trans (Array.getElem?_eq_getElem (by have := HF.out.len; have := HF.out.le; simp [btV]; omega))⟩; obtain ⟨v, c1⟩ := c1; have S1 := Lib.hid (And.intro hs1 ho1); clear hs1 ho1 r1; simp only [List.headD_cons]))
        go_roundw
        case rel => exact ⟨k + 1, by omega, by go_num, HF.out.step HR.out S1.out.1 S1.out.2 h1⟩
        case measure => simp [intOf]; omega
    · have hkn : k = n := by omega
      subst hkn
      go_wp2_with fail
      go_ret
      have hr := HF.out.row
      rw [List.drop_eq_nil_of_le (by rw [HF.out.len]; omega), List.append_nil] at hr
      exact ⟨true, _, rfl, HF.out.src, HF.out.only, by simp, .inl ⟨rfl, R.take k, by rw [List.length_take]; have := HF.out.le; omega, (List.take_append_drop k R).symm, hr⟩⟩

theorem run_index_wide (b0 b1 b2 b3 b4 b5 b6 b7 : Int) (k : Nat) (x : Int) (hx : [b0, b1, b2, b3, b4, b5, b6, b7][k]? = some x) (w : World) :
    (Instr.index 123 (.agg #[.int .u8 b0, .int .u8 b1, .int .u8 b2, .int .u8 b3, .int .u8 b4, .int .u8 b5, .int .u8 b6, .int .u8 b7]) (.int .i64 k)).run Tryd.prog w = .ok (.int .u8 x) w := by
  have hk := lt_of_get hx
  simp only [List.length_cons, List.length_nil] at hk
  obtain ⟨i, hi, hz, hsz, hby⟩ := info_parts info_byte
  obtain rfl | rfl | rfl | rfl | rfl | rfl | rfl | rfl : k = 0 ∨ k = 1 ∨ k = 2 ∨ k = 3 ∨ k = 4 ∨ k = 5 ∨ k = 6 ∨ k = 7 := by omega
  all_goals (
    simp at hx
    subst hx
    simp [Instr.index, run_underlying Tryd.underlying123, asIntOf, go_sem, sizeOf, typeInfo, hi, hsz])
def valB (l : List Int) : Int := l.foldl (fun a b => a * 256 + b) 0
theorem valB_step {l : List Int} {k : Nat} {x : Int} (hx : l[k]? = some x) : valB (l.take (k + 1)) = valB (l.take k) * 256 + x := by
  rw [List.take_add_one, hx, valB, List.foldl_append]; rfl
theorem valB_range {l : List Int} (h : isB l) (k : Nat) : 0 ≤ valB (l.take k) ∧ valB (l.take k) < 256 ^ k := by
  induction k with
  | zero => simp [valB]
  | succ k ih =>
    rcases hx : l[k]? with _ | x
    · rw [List.take_add_one, hx, Option.toList_none, List.append_nil, Int.pow_succ]; omega
    · have := h x (List.mem_of_getElem? hx)
      rw [valB_step hx, Int.pow_succ]; omega
/-- The bytes of their number. -/
theorem beB_valB {l : List Int} (h : isB l) : beB l.length (valB l) = l := by
  have main : ∀ k, k ≤ l.length → beB k (valB (l.take k)) = l.take k := by
    intro k
    induction k with
    | zero => intro _; simp [beB, leB]
    | succ k ih =>
      intro hk
      obtain ⟨x, hx⟩ : ∃ x, l[k]? = some x := ⟨_, List.getElem?_eq_getElem (by omega)⟩
      have hr := h x (List.mem_of_getElem? hx)
      have h1 : (valB (l.take k) * 256 + x) % 256 = x := by omega
      have h2 : (valB (l.take k) * 256 + x) / 256 = valB (l.take k) := by omega
      rw [valB_step hx, beB, leB, h1, h2, List.reverse_cons, List.take_add_one, hx]
      have := ih (by omega)
      rw [beB] at this
      rw [this]; rfl
  have := main l.length (Nat.le_refl _)
  rwa [List.take_of_length_le (Nat.le_refl _)] at this
set_option maxHeartbeats 4000000 in
theorem number_any' (b0 b1 b2 b3 b4 b5 b6 b7 : Int) (hq : isB [b0, b1, b2, b3, b4, b5, b6, b7]) (w : World) :
    Calls Tryd.prog 134 #[.agg #[.int .u8 b0, .int .u8 b1, .int .u8 b2, .int .u8 b3, .int .u8 b4, .int .u8 b5, .int .u8 b6, .int .u8 b7]] w fun e w' => e = .returned (.int .i64 (valB [b0, b1, b2, b3, b4, b5, b6, b7] - 9223372036854775808)) ∧ Below w.heap.size w w' := by
  have HQ := Lib.hid hq
  clear hq
  go_enter Tryd.func134, Tryd.ntmps134
  go_wp2_with fail
  go_loopw [3, 7] (fun u i wr => ∃ k : Nat, k ≤ 8 ∧ i = .int .i64 k ∧ u = .int .u64 (valB ([b0, b1, b2, b3, b4, b5, b6, b7].take k)) ∧ Below w.heap.size w wr) (fun _ i _ => 8 - (intOf i).toNat)
  case atStart => exact ⟨0, by omega, rfl, rfl, below1 _ _⟩
  case round =>
    obtain ⟨k, hk, rfl, rfl, hb⟩ := hrel
    have HB := Lib.hid hb
    clear hb
    by_cases hk8 : k < 8
    · obtain ⟨x, hx⟩ : ∃ x, [b0, b1, b2, b3, b4, b5, b6, b7][k]? = some x := ⟨_, List.getElem?_eq_getElem (by simpa using hk8)⟩
      obtain ⟨x0, x1⟩ := HQ.out x (List.mem_of_getElem? hx)
      have kc := run_index_wide b0 b1 b2 b3 b4 b5 b6 b7 k x hx
      have HX := Lib.hid hx
      clear hx
      obtain ⟨r0, r1⟩ := valB_range HQ.out k
      have hp : (256 : Int) ^ k ≤ 72057594037927936 := by
        obtain rfl | rfl | rfl | rfl | rfl | rfl | rfl | rfl : k = 0 ∨ k = 1 ∨ k = 2 ∨ k = 3 ∨ k = 4 ∨ k = 5 ∨ k = 6 ∨ k = 7 := by omega
        all_goals decide
      have HS := Lib.hid (valB_step HX.out)
      generalize valB ([b0, b1, b2, b3, b4, b5, b6, b7].take k) = r at *
      have r2 : r < 72057594037927936 := by omega
      clear hp r1
      have hxw : x % 18446744073709551616 = x := by omega
      have hor : bits .or .u64 (r * 256) x = r * 256 + x := bits_join .u64 64 (by decide) wraps_u64 8 _ _ (by omega) (by omega) (by omega) (by omega) (by omega) (by omega)
      go_wp2_with fail
      go_roundw
      case rel => exact ⟨k + 1, by omega, by go_num, by rw [HS.out], HB.out⟩
      case measure => simp [intOf]; omega
    · obtain ⟨r0, r1⟩ := valB_range HQ.out k
      have hk8' : k = 8 := by omega
      have hp8 : (256 : Int) ^ 8 = 18446744073709551616 := by decide
      rw [hk8'] at r0 r1
      rw [hp8] at r1
      have HE := Lib.hid (show valB ([b0, b1, b2, b3, b4, b5, b6, b7].take k) = valB [b0, b1, b2, b3, b4, b5, b6, b7] by rw [hk8']; rfl)
      simp only [List.take_succ_cons, List.take_zero] at r0 r1
      rw [HE.out]
      generalize hX : valB [b0, b1, b2, b3, b4, b5, b6, b7] = X at *
      replace hX := Lib.hid hX
      have hw : IntKind.i64.wrap (IntKind.u64.wrap (X - 9223372036854775808)) = X - 9223372036854775808 := by
        have e1 : IntKind.u64.wrap (X - 9223372036854775808) = (X - 9223372036854775808) % 18446744073709551616 := rfl
        rw [e1]
        by_cases h : X < 9223372036854775808
        · have e2 : (X - 9223372036854775808) % 18446744073709551616 = X + 9223372036854775808 := by omega
          rw [e2]
          have e3 : ∀ n : Int, IntKind.i64.wrap n = (n + 9223372036854775808) % 18446744073709551616 - 9223372036854775808 := fun n => by simp [IntKind.wrap, IntKind.bits, IntKind.signed]; omega
          rw [e3]; omega
        · have e2 : (X - 9223372036854775808) % 18446744073709551616 = X - 9223372036854775808 := by omega
          rw [e2]
          have e3 : ∀ n : Int, IntKind.i64.wrap n = (n + 9223372036854775808) % 18446744073709551616 - 9223372036854775808 := fun n => by simp [IntKind.wrap, IntKind.bits, IntKind.signed]; omega
          rw [e3]; omega
      clear hk8'
      go_wp2_with fail
      go_ret
      exact ⟨by rw [hX.out]; rfl, HB.out⟩

def NumRelR (R : List Int) (n : Int) (ok : Bool) (R' : List Int) : Prop := (ok = true → okInt n ∧ R = beB 8 (n + 9223372036854775808) ++ R') ∧ (ok = false → n = 0 ∧ R.length < 8) ∧ R'.length ≤ R.length
def ReadsNum (R : List Int) (B : Nat) (K : Ctx) (w : World) (e : Ending) (w' : World) : Prop := ∃ n ok R', e = .returned (.tuple #[.int .i64 n, .bool ok]) ∧ Src w' B K R' ∧ Only [B + 1] w w' ∧ NumRelR R n ok R'
theorem eight_parts {q : List Int} (h : q.length = 8) : ∃ b0 b1 b2 b3 b4 b5 b6 b7, q = [b0, b1, b2, b3, b4, b5, b6, b7] := by
  rcases q with _ | ⟨b0, _ | ⟨b1, _ | ⟨b2, _ | ⟨b3, _ | ⟨b4, _ | ⟨b5, _ | ⟨b6, _ | ⟨b7, _ | ⟨b8, r⟩⟩⟩⟩⟩⟩⟩⟩⟩ <;> simp at h
  exact ⟨_, _, _, _, _, _, _, _, rfl⟩
theorem num_rel {R R' : List Int} {b0 b1 b2 b3 b4 b5 b6 b7 : Int} (hb : isB [b0, b1, b2, b3, b4, b5, b6, b7]) (hR : R = [b0, b1, b2, b3, b4, b5, b6, b7] ++ R') : NumRelR R (valB [b0, b1, b2, b3, b4, b5, b6, b7] - 9223372036854775808) true R' := by
  have h1 := valB_range hb 8
  have hp8 : (256 : Int) ^ 8 = 18446744073709551616 := by decide
  rw [hp8] at h1
  have e : [b0, b1, b2, b3, b4, b5, b6, b7].take 8 = [b0, b1, b2, b3, b4, b5, b6, b7] := rfl
  rw [e] at h1
  have h2 := beB_valB hb
  refine ⟨fun _ => ⟨by unfold okInt; omega, ?_⟩, fun h => (by cases h), by rw [hR]; simp; omega⟩
  rw [Int.sub_add_cancel]
  have h3 : beB 8 (valB [b0, b1, b2, b3, b4, b5, b6, b7]) = [b0, b1, b2, b3, b4, b5, b6, b7] := h2
  rw [h3]; exact hR
set_option maxHeartbeats 4000000 in
theorem readNumber_any (w : World) (B : Nat) (K : Ctx) (R : List Int) (h : Src w B K R) : Calls Tryd.prog 110 #[nextF B] w (ReadsNum R B K w) := by
  show Calls _ _ #[.func (.func 84) #[] #[.pointer (some ⟨B + 1, 0, none⟩), .pointer (some ⟨B, 0, none⟩), .pointer (some ⟨B + 2, 0, none⟩)]] _ _
  have HF := Lib.hid (fill_any _ B w.heap.size 8 123 K R [.int .u8 0, .int .u8 0, .int .u8 0, .int .u8 0, .int .u8 0, .int .u8 0, .int .u8 0, .int .u8 0] (h.then_ (below1 w (.cells #[.int .u8 0, .int .u8 0, .int .u8 0, .int .u8 0, .int .u8 0, .int .u8 0, .int .u8 0, .int .u8 0] 123))) (heap_alloc_new _ _) rfl h.size (by omega))
  have HB := Lib.hid (And.intro h.isB h.size)
  clear h
  go_enter Tryd.func110, Tryd.ntmps110
  go_wp2_with (first
    | (go_at_call 133; refine HF.out.mono ?_; rintro e w1 ⟨ok, R', rfl, hs1, ho1, hle, ⟨rfl, q, hq, hR, hrow⟩ | ⟨rfl, hlt⟩⟩; (obtain ⟨b0, b1, b2, b3, b4, b5, b6, b7, rfl⟩ := eight_parts hq; have c1 := row_cells hrow; simp only [btV, List.map_cons, List.map_nil] at c1; have S1 := Lib.hid (And.intro hs1 (And.intro (((Only.of_below (S := [B + 1]) (below1 w _))).then_ ho1 (by simp)) hR)); clear hs1 ho1 hR hrow hq); rotate_left; (have S1 := Lib.hid (And.intro hs1 (And.intro ((Only.of_below (S := [B + 1]) (below1 w _)).then_ ho1 (by simp)) (And.intro hlt hle))); clear hs1 ho1 hlt); rotate_left)
    | (go_at_call 134; refine (number_any' b0 b1 b2 b3 b4 b5 b6 b7 (fun b hb => HB.out.1 b (by rw [S1.out.2.2]; exact List.mem_append_left _ hb)) w1).mono ?_; rintro e w2 ⟨rfl, hb2⟩; have B2 := Lib.hid hb2; clear hb2))
  · go_ret2
    exact ⟨_, _, R', rfl, S1.out.1.then_ B2.out, S1.out.2.1.trans (Only.of_below B2.out), num_rel (fun b hb => HB.out.1 b (by rw [S1.out.2.2]; exact List.mem_append_left _ hb)) S1.out.2.2⟩
  · go_ret2
    exact ⟨_, _, R', rfl, S1.out.1, S1.out.2.1, fun h => (by cases h), fun _ => ⟨rfl, S1.out.2.2.1⟩, S1.out.2.2.2⟩
end Go.Proofs.YtdlgngnibbaamaaDoor
