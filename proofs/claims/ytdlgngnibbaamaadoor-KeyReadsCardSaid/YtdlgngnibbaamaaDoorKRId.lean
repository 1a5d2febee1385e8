/- The contract of keyenc's readId: no statement is proved here. -/
import Derived.Test.YtdlgngnibbaamaaDoorKRFill
namespace Go.Proofs.YtdlgngnibbaamaaDoor
open Go.RowKit
set_option maxRecDepth 100000

def IdRel (R : List Int) (s : ByteArray) (ok : Bool) (R' : List Int) : Prop := (ok = true → s.size = 12 ∧ R = bsI s ++ R') ∧ (ok = false → s = ⟨#[]⟩ ∧ R.length < 12) ∧ R'.length ≤ R.length
def ReadsId (R : List Int) (B : Nat) (K : Ctx) (w : World) (e : Ending) (w' : World) : Prop := ∃ s ok R', e = .returned (.tuple #[.string s, .bool ok]) ∧ Src w' B K R' ∧ Only [B + 1] w w' ∧ IdRel R s ok R'
theorem row_inB {w : World} {g : Nat} {T : TypeId} {q : List Int} (h : w.heap[g]? = some (.cells (btV q).toArray T (0, 0))) : InB w (some ⟨g, 0, none⟩) q := fun i x hx => ⟨g, 0, rfl, by
  rw [Nat.zero_add, row_cells h i]
  simp [btV, hx]⟩
set_option maxHeartbeats 4000000 in
theorem readId_any (w : World) (B : Nat) (K : Ctx) (R : List Int) (h : Src w B K R) : Calls Tryd.prog 112 #[nextF B] w (ReadsId R B K w) := by
  show Calls _ _ #[.func (.func 84) #[] #[.pointer (some ⟨B + 1, 0, none⟩), .pointer (some ⟨B, 0, none⟩), .pointer (some ⟨B + 2, 0, none⟩)]] _ _
  have HF := Lib.hid (fill_any _ B w.heap.size 12 112 K R [.int .u8 0, .int .u8 0, .int .u8 0, .int .u8 0, .int .u8 0, .int .u8 0, .int .u8 0, .int .u8 0, .int .u8 0, .int .u8 0, .int .u8 0, .int .u8 0] (h.then_ (below1 w (.cells #[.int .u8 0, .int .u8 0, .int .u8 0, .int .u8 0, .int .u8 0, .int .u8 0, .int .u8 0, .int .u8 0, .int .u8 0, .int .u8 0, .int .u8 0, .int .u8 0] 112))) (heap_alloc_new _ _) rfl h.size (by omega))
  have HB := Lib.hid (And.intro h.isB h.size)
  clear h
  go_enter Tryd.func112, Tryd.ntmps112
  go_wp2_with (first
    | (go_at_call 133; refine HF.out.mono ?_; rintro e w1 ⟨ok, R', rfl, hs1, ho1, hle, ⟨rfl, q, hq, hR, hrow⟩ | ⟨rfl, hlt⟩⟩; (have kc := run_str w1 (some ⟨w.heap.size, 0, none⟩) 12 12 q hq (row_inB hrow) (fun h => by cases h); have S1 := Lib.hid (And.intro hs1 (And.intro (((Only.of_below (S := [B + 1]) (below1 w _))).then_ ho1 (by simp)) (And.intro hR hq))); clear hs1 ho1 hR hrow hq); rotate_left; (have S1 := Lib.hid (And.intro hs1 (And.intro ((Only.of_below (S := [B + 1]) (below1 w _)).then_ ho1 (by simp)) (And.intro hlt hle))); clear hs1 ho1 hlt); rotate_left))
  · go_ret2
    have hb : isB q := fun b hb => HB.out.1 b (by rw [S1.out.2.2.1]; exact List.mem_append_left _ hb)
    exact ⟨_, _, R', rfl, S1.out.1, S1.out.2.1, fun _ => ⟨by rw [strOfNums_size, S1.out.2.2.2], by rw [bsI_str hb]; exact S1.out.2.2.1⟩, fun h => (by cases h), hle⟩
  · go_ret2
    exact ⟨_, _, R', rfl, S1.out.1, S1.out.2.1, fun h => (by cases h), fun _ => ⟨rfl, S1.out.2.2.1⟩, S1.out.2.2.2⟩
end Go.Proofs.YtdlgngnibbaamaaDoor
