/- Operators that take what their arguments come to. No statement is proved here. -/
import Derived.Test.YtcpbdmgkeljkgaaGreatDoorJ6
import Derived.Test.YtcpbdmgkeljkgaaGreatDoorJ7
namespace Go.Proofs.YtcpbdmgkeljkgaaGreatDoor
open Go.RowKit
set_option maxRecDepth 100000

/-- What is made of a list of values, by a function with what it has captured. -/
def MadeTo' (W : World) (gM : FuncId) (caps : Array Value) (l : List Nod) (R : T → Prop) (err : Int) : Prop :=
  ∀ (w : World) (B gr : Nat) (rs : List T), Below W.heap.size W w → rs.length = l.length → (∀ (i : Nat) (r : T) (a : Nod), rs[i]? = some r → l[i]? = some a → a.R r) → (∀ r ∈ rs, r.ok) → InL w (some ⟨gr, 0, none⟩) rs → w.ownsRow B 28 5 (.slice (some ⟨gr, 0, none⟩) l.length l.length) l.length (rs.flatMap T.cells) →
    Calls Tryz.prog gM (#[.slice (some ⟨gr, 0, none⟩) l.length l.length] ++ caps) w (MadeAt R err rs w)
set_option maxHeartbeats 4000000 in
theorem eager_op {W : World} {d : T} {least : Int} {more : Bool} {gM : FuncId} {caps : Array Value}
    (l : List Nod) (hl0 : 1 ≤ l.length) (hl : l.length ≤ 1000) (H : ∀ a ∈ l, Ev W d a.u a.x a.k a.R 0) (ga c : Nat) (hrow : ∀ (i : Nat) (a : Nod), l[i]? = some a → W.cell? ⟨ga, i, none⟩ = some a.cell)
    {R : T → Prop} {err : Int} (hf : ∀ (args : Array Value) (w : World), (callFunc gM args).run Tryz.prog w = .ok (.enter gM args) w) (HM : MadeTo' W gM caps l R err) :
    OpTo W d 138 (.agg #[.int .i64 least, .bool more, .func (.func gM) #[] caps]) ga l.length c (stepsN l) R err := by
  refine ⟨281, ⟨fun w => by kernel_rfl, fun args w => by kernel_rfl⟩, fun w g gb n hb hg hw hn => ?_⟩
  have HA := Lib.hid (fun w' hb' hw' => evalAll_any l hl0 hl H ga c hrow w' g gb n hb' hg hw' hn)
  clear H hrow
  have hgs := lt_of_block hw.row
  obtain ⟨O, hO⟩ : ∃ O : Obj, O = .cells #[.int .i64 least, .bool more, .func (.func gM) #[] caps] 138 (0, 0) := ⟨_, rfl⟩
  have b0 := below2 w O (box 0 0)
  have r0 := row_then (show (w.alloc O).heap[w.heap.size]? = some (.cells #[.int .i64 least, .bool more, .func (.func gM) #[] caps] 138 (0, 0)) by rw [← hO]; exact heap_alloc_new w O) (below1 _ (box 0 0))
  have r1 := heap_alloc_new (w.alloc O) (box 0 0)
  rw [World.size_alloc] at r1
  have hz0 : ((w.alloc O).alloc (box 0 0)).heap.size = w.heap.size + 2 := by simp
  generalize hU : (w.alloc O).alloc (box 0 0) = U at b0 r0 r1 hz0
  rw [hO] at hU
  have HU := Lib.hid (And.intro hU (And.intro b0 (And.intro r0 (And.intro r1 hz0))))
  have HE := Lib.hid (HA.out U (below_onlyG hb (Only.of_below b0) hg hb.size) (hw.then_ (Only.of_below b0) (row_then hw.row b0)))
  have HKM := Lib.hid (And.intro hb hw)
  clear b0 r0 r1 hz0 hU hb hw HA hO
  unfold box at HU
  go_enter Tryz.func281, Tryz.ntmps281
  go_wp2_with fail
  rw [HU.out.1]
  refine HE.out.mono ?_
  rintro e w1 ⟨rs, rfl, hR⟩
  have hin1 := InL.of_row hR.row (fun r hr => (hR.ins r hr).1)
  have hrl : rs.length = l.length := hR.len
  have X0 := keep_row hR.only HU.out.2.2.1 (by simp; omega)
  have cX0 := row_cells X0
  have hz1 := hR.only.size
  have bW : Below W.heap.size W w1 := below_onlyG (below_onlyG HKM.out.1 (Only.of_below HU.out.2.1) hg HKM.out.1.size) hR.only hg (by have := HKM.out.1.size; have := HU.out.2.1.size; omega)
  have HC := Lib.hid (HM w1 _ _ rs bW hrl hR.val hR.ok hin1 hR.row)
  have HR := Lib.hid hR
  clear hR hin1 X0 HM HE bW
  go_wp2_with fail
  refine HC.out.mono ?_
  rintro e w3 ⟨⟨rk, rm, rs', rla, rlc, rl, rda, rdc, rf⟩, rfl, hR1, hok1, hi1, hp1, hb3⟩
  have X := row_then (keep_row HR.out.only HU.out.2.2.2.1 (by simp; omega)) hb3
  have HX := Lib.hid (And.intro X (And.intro hR1 (And.intro hok1 (And.intro hi1 (And.intro hp1 hb3)))))
  have cX := row_cells X
  have fX := rowf X
  unfold box at cX fX
  clear hR1 hok1 hi1 hp1 hb3 X cX0
  dsimp only [T.arg, T.cells]
  go_wp2_with fail
  generalize hV : World.setCell _ _ _ = V'
  obtain ⟨t1, t2⟩ := put5V HX.out.1 hV
  have q := row_cells t2
  obtain ⟨-, hR1, hok1, hi1, hp1, hb3⟩ := HX.out
  have hUz := HU.out.2.2.2.2
  have hwz := HKM.out.1.size
  have hpl : ∀ p ∈ (T.mk rk rm rs' rla rlc rl rda rdc rf).places, p.1.block < W.heap.size ∨ U.heap.size ≤ p.1.block := fun p hp => by
    rcases hp1 p hp with h | ⟨r', hr', h⟩
    · omega
    · rcases (HR.out.ins r' hr').2 p h with h | h <;> omega
  have hres : EvTo W.heap.size g gb (n + stepsN l) R err w (.returned (.tuple #[T.arg (.mk rk rm rs' rla rlc rl rda rdc rf), .int .i64 err])) V' :=
    ⟨_, rfl, hR1, hok1, hi1.onlyG t1 (fun p hp => by rcases hpl p hp with h | h <;> omega), fun p hp => (hpl p hp).imp id (fun h => by omega),
      (((Only.of_below (S := [g]) HU.out.2.1).trans HR.out.only).trans (Only.of_below hb3)).then_ t1 (fun i hi => .inr (by simp at hi; omega)), by
      have hs := row_then HR.out.steps hb3
      rw [List.take_length] at hs
      rw [t1.block g (lt_of_block hs) (by simp; omega)]
      exact hs⟩
  have HRR := Lib.hid hres
  clear hV t1 t2 cX fX hR1 hok1 hi1 hp1 hb3 hres HX HU HR hpl
  simp [bodyPost, results, Tryz.results281, go_sem, q]
  exact HRR.out
end Go.Proofs.YtcpbdmgkeljkgaaGreatDoor
