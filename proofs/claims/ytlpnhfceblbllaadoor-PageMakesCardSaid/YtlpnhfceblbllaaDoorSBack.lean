/- What layer 11's statements call over bytes: Back. No statement is proved here. -/
import Derived.Test.YtlpnhfceblbllaaDoorSLent
namespace Go.Proofs.YtlpnhfceblbllaaDoor
open Go.RowKit
set_option maxRecDepth 100000

theorem drop_set {α : Type} {xs m : List α} {k : Nat} (h : xs.drop k = m.drop k) (y : α) : (xs.set k y).drop (k + 1) = m.drop (k + 1) := by
  have e := congrArg (List.drop 1) h
  rw [List.drop_drop, List.drop_drop] at e
  rw [← e, List.drop_set_of_lt (by omega)]
theorem drop_get {α : Type} {xs m : List α} {k : Nat} (h : xs.drop k = m.drop k) : xs[k]? = m[k]? := by
  have e := congrArg (·[0]?) h
  simpa using e
theorem InB.only {w w' : World} {S : List Nat} {a : Option Addr} {l : List Int} (h : InB w a l) (ho : Only S w w') (hS : ∀ b o, a = some (⟨b, o, none⟩ : Addr) → 1 ≤ l.length → b ∉ S) : InB w' a l := fun i x hx => by
  obtain ⟨b, o, e, hc⟩ := h i x hx
  refine ⟨b, o, e, ?_⟩
  have hb := ho.block b (cell_lt hc) (hS b o e (by have := lt_of_get hx; omega))
  rw [← hc]
  unfold World.cell?
  rw [hb]
set_option maxHeartbeats 4000000 in
theorem sback_any (B g : Nat) (a : Option Addr) (c n : Nat) (q : List Int) (w : World) (own : OwnB w B (.slice (some ⟨g, 0, none⟩) (n + 3) (n + 3)) (q ++ [201, 201, 201])) (ha : InB w a q) (hlow : ∀ b o, a = some (⟨b, o, none⟩ : Addr) → 1 ≤ q.length → b < g) (hn : q.length = n) (hl : n + 3 ≤ 140737488355328) :
    Calls Tryd.prog 11 #[.slice (some ⟨g, 0, none⟩) n (n + 3), .slice a n c] w fun e w' => e = .returned (.bool true) ∧ Only [g] w w' := by
  have HA := Lib.hid (And.intro ha (And.intro hlow hn))
  have HO := Lib.hid own
  clear ha hlow own
  go_enter Tryd.func11, Tryd.ntmps11
  go_wp2_with fail
  go_loopw [6, 7] (fun u i wr => ∃ (k : Nat) (xs : List Int), k ≤ n + 3 ∧ i = .int .i64 (k : Int) ∧ u = .bool true ∧ Hid (xs.drop k = (q ++ [201, 201, 201]).drop k ∧ OwnB wr B (.slice (some ⟨g, 0, none⟩) (n + 3) (n + 3)) xs ∧ Only [g] w wr)) (fun _ i _ => n + 3 - (intOf i).toNat)
  case atStart => exact ⟨0, _, by omega, rfl, rfl, rfl, HO.out, Only.refl _ _⟩
  case round =>
    obtain ⟨k, xs, hk, rfl, rfl, HK⟩ := hrel
    by_cases hlt : k < n + 3
    · by_cases hq : k < n
      · obtain ⟨b, o, x, rfl, hx, x0⟩ := (HA.out.1.only HK.2.2 (fun b o e h1 => by have := HA.out.2.1 b o e h1; simp; omega)).one (i := k) (by omega)
        have hy : xs[k]? = some x := by rw [drop_get HK.1, List.getElem?_append_left (by omega), hx]
        obtain ⟨y0, hf⟩ := HK.2.1.at_ hy
        have hxx : ((x : Int) == x) = true := by simp
        clear hx hy
        go_wp2_with fail
        go_roundw
        case rel =>
          have h := HK.2.1.set k (bits .xor .u8 x 33)
          exact ⟨k + 1, xs.set k (bits .xor .u8 x 33), by omega, by go_num, rfl, drop_set HK.1 _, h.1, HK.2.2.trans (Only.of_grown h.2)⟩
        case measure => simp [intOf]; omega
      · have hy : xs[k]? = some 201 := by
          rw [drop_get HK.1, List.getElem?_append_right (by omega)]
          have : k - q.length < 3 := by omega
          rcases (by omega : k - q.length = 0 ∨ k - q.length = 1 ∨ k - q.length = 2) with e | e | e <;> rw [e] <;> rfl
        obtain ⟨y0, hf⟩ := HK.2.1.at_ hy
        clear hy
        go_wp2_with fail
        go_roundw
        case rel =>
          have h := HK.2.1.set k 232
          exact ⟨k + 1, xs.set k 232, by omega, by go_num, rfl, drop_set HK.1 _, h.1, HK.2.2.trans (Only.of_grown h.2)⟩
        case measure => simp [intOf]; omega
    · go_wp2_with fail
      go_ret
      exact ⟨rfl, HK.2.2⟩
end Go.Proofs.YtlpnhfceblbllaaDoor
