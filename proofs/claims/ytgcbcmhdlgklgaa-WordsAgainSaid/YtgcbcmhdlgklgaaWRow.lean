/- Rows of words: how they lie, how they are held against each other. No statement is proved here. -/
import Derived.Test.YtgcbcmhdlgklgaaWPure
namespace Go.Proofs.Ytgcbcmhdlgklgaa
open Go.RowKit Go.Lib
set_option maxRecDepth 100000

/-- Words as values; a row of words of a call's own. -/
def stV (ws : List (List Int)) : List Value := ws.map fun w => Value.string (strOfNums w)
theorem stV_len (ws : List (List Int)) : (stV ws).length = ws.length := List.length_map _
theorem stV_append (a b : List (List Int)) : stV (a ++ b) = stV a ++ stV b := List.map_append
def OwnS (w : World) (B : Nat) (v : Value) (ws : List (List Int)) : Prop := w.ownsRow B 9 1 v ws.length (stV ws)
theorem OwnS.nil (w : World) (B : Nat) : OwnS w B (.slice none 0 0) [] := World.ownsRow_nil _ _ _ _
theorem OwnS.block {w : World} {B : Nat} {v : Value} {ws : List (List Int)} (h : OwnS w B v ws) : ∀ g, v.ownBlock = some g → B ≤ g ∧ g < w.heap.size := World.ownsRow.lt h
theorem OwnS.keep {w w' : World} {B : Nat} {v : Value} {l : List (List Int)} (h : OwnS w B v l) (hb : ∀ g, v.ownBlock = some g → w'.heap[g]? = w.heap[g]?) : OwnS w' B v l := by
  obtain ⟨h1, h2⟩ := h
  refine ⟨h1, ?_⟩
  rcases h2 with h2 | ⟨g, cap, cur, hv, hB, hg, hrest⟩
  · exact .inl h2
  · refine .inr ⟨g, cap, cur, hv, hB, ?_, hrest⟩
    rw [hb g (by rw [hv]; rfl)]
    exact hg
theorem OwnS.then_ {w w' : World} {B : Nat} {v : Value} {l : List (List Int)} (h : OwnS w B v l) (hb : Below w.heap.size w w') : OwnS w' B v l := h.keep fun g hg => hb.block g (h.block g hg).2
theorem info_str : (Try.prog.info? 9).map (fun i => (i.zero, i.size, i.bytes)) = some (some (.string ⟨#[]⟩), 1, 16) := by kernel_rfl
/-- A row of words that lies there. -/
def InW (w : World) (a : Option Addr) (ws : List (List Int)) : Prop := ∀ i x, ws[i]? = some x → ∃ b o, a = some (⟨b, o, none⟩ : Addr) ∧ w.cell? ⟨b, o + i, none⟩ = some (.string (strOfNums x))
theorem InW.then_ {w w' : World} {a : Option Addr} {l : List (List Int)} (h : InW w a l) (hb : Below w.heap.size w w') : InW w' a l := fun i x hx => by
  obtain ⟨b, o, e, hc⟩ := h i x hx
  exact ⟨b, o, e, (hb.cell (cell_lt hc)).trans hc⟩
theorem OwnS.shape {w : World} {B : Nat} {v : Value} {ws : List (List Int)} (h : OwnS w B v ws) : ∃ a c, v = .slice a ws.length c ∧ InW w a ws ∧ (a = none ∨ ∃ g, a = some ⟨g, 0, none⟩) ∧ ws.length ≤ maxLen ∧ (a = none → c = 0 ∧ ws = []) := by
  have h0 := h
  obtain ⟨h1, h2⟩ := h
  rcases h2 with ⟨hv, hz⟩ | ⟨g, cap, cur, hv, hb, hg, hle, hcm, hrest⟩
  · have e : ws = [] := List.eq_nil_of_length_eq_zero hz
    subst e
    exact ⟨none, 0, hv, fun i x hx => by simp at hx, .inl rfl, by unfold maxLen; simp, fun _ => ⟨rfl, rfl⟩⟩
  · refine ⟨some ⟨g, 0, none⟩, cap, hv, fun i x hx => ⟨g, 0, rfl, ?_⟩, .inr ⟨g, rfl⟩, Nat.le_trans hle hcm, fun h => by cases h⟩
    have hi := lt_of_get hx
    subst hv
    rw [Nat.zero_add, World.ownsRow.cellAt h0 i (by omega), stV, List.getElem?_map, hx]
    rfl
set_option maxHeartbeats 4000000 in
theorem same_true (a b : Option Addr) (ca cb n : Nat) (ws : List (List Int)) (w : World) (ha : InW w a ws) (hb : InW w b ws) (hn : ws.length = n) (hl : n ≤ 9223372036854775807) :
    Calls Try.prog 7 #[.slice a n ca, .slice b n cb] w fun e w' => e = .returned (.bool true) ∧ Below w.heap.size w w' := by
  have HA := Lib.hid (And.intro ha (And.intro hb hn))
  clear ha hb hn
  go_enter Try.func7, Try.ntmps7
  go_wp2_with fail
  go_loopw [5] (fun i wr => ∃ k : Nat, k ≤ n ∧ i = .int .i64 (k : Int) ∧ Hid (Below w.heap.size w wr)) (fun i _ => n - (intOf i).toNat)
  case atStart => exact ⟨0, by omega, rfl, Below.refl _ _⟩
  case round =>
    obtain ⟨k, hk, rfl, HB⟩ := hrel
    by_cases hlt : k < n
    · obtain ⟨x, hx⟩ : ∃ x, ws[k]? = some x := ⟨_, List.getElem?_eq_getElem (by rw [HA.out.2.2]; exact hlt)⟩
      obtain ⟨b1, o1, rfl, c1⟩ := (HA.out.1.then_ HB) k x hx
      obtain ⟨b2, o2, rfl, c2⟩ := (HA.out.2.1.then_ HB) k x hx
      have i0 : (0 : Int) ≤ (k : Int) := by omega
      have i1 : (k : Int) < (n : Int) := by omega
      clear hx
      go_wp2_with fail
      go_quiet (fail)
      go_wp2_with fail
      go_roundw
      case rel => exact ⟨k + 1, by omega, by go_num, ⟨HB.os, HB.tape, HB.output, HB.size, HB.block⟩⟩
      case measure => simp [intOf]; omega
    · go_wp2_with fail
      go_ret
      exact ⟨rfl, HB⟩
theorem splitL_len (l : List Int) : (splitL l).length ≤ 200 := by unfold splitL; rw [List.length_take]; omega
end Go.Proofs.Ytgcbcmhdlgklgaa
