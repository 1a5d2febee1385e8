/- The program's Pages, and its Write of a page. No statement is proved here. -/
import Derived.Test.YtlpnhfceblbllaaDoorGDk
import Derived.Test.YtlpnhfceblbllaaDoorDBlk6
import Derived.Test.YtlpnhfceblbllaaDoorGEnv
import Derived.Test.YtlpnhfceblbllaaDoorJ4
namespace Go.Proofs.YtlpnhfceblbllaaDoor
open Go.RowKit
set_option maxRecDepth 100000

theorem OwnB.turns {T : Obj → Prop} {w w' : World} {B B' : Nat} {v : Value} {r : List Int} (h : OwnB w B v r) (h1 : 1 ≤ r.length) (ht : Turns T B' w w') (hn : ∀ cur, ¬ T (.cells cur 5)) : OwnB w' B v r := (RowAt.turns (w := w) ⟨h, h1⟩ ht hn).1
theorem sectorP_any (number i : Int) (w : World) (h1 : 0 ≤ number) (h2 : number ≤ 1152921504606846975) (h3 : 0 ≤ i) (h4 : i < 8) : Calls Tryd.prog 46 #[.int .i64 number, .int .i64 i] w fun e w' => e = .returned (.int .i64 (number * 8 + i)) ∧ w = w' := by
  go_enter Tryd.func46, Tryd.ntmps46
  go_wp2_with fail
  go_ret
  exact ⟨rfl, rfl⟩
theorem pages_any (h g : Nat) (w : World) (B N : Nat) (d : Dk) (hh : w.cell? ⟨h, 0, none⟩ = some (.pointer (some ⟨g, 0, none⟩))) (hb : BoxAt w B g d N) :
    Calls Tryd.prog 21 #[.pointer (some ⟨h, 0, none⟩)] w fun e w' => e = .returned (.int .i64 d.pages) ∧ w = w' := by
  have HS := Lib.hid (sectors_any h g w B N d hh hb)
  have hm : d.many ≤ 9223372036854775807 := by obtain ⟨-, s, h⟩ := hb; exact h.many
  unfold Dk.pages
  clear hb hh
  go_enter Tryd.func21, Tryd.ntmps21
  go_wp2_with fail
  refine HS.out.mono ?_
  rintro e w' ⟨rfl, rfl⟩
  go_wp2_with fail
  go_ret
  exact ⟨rfl, rfl⟩
end Go.Proofs.YtlpnhfceblbllaaDoor
