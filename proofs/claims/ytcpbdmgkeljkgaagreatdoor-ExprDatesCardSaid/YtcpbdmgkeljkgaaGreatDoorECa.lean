/- A call: an operator with its nodes. No statement is proved here. -/
import Derived.Test.YtcpbdmgkeljkgaaGreatDoorESt
namespace Go.Proofs.YtcpbdmgkeljkgaaGreatDoor
open Go.RowKit
set_option maxRecDepth 100000

def voidT : T := .mk 0 0 ⟨#[]⟩ none 0 [] none 0 []
theorem voidT_ok : voidT.ok := by
  simp [voidT, T.ok, T.okL, T.okD, okInt, okLen, okFar]
  decide
theorem voidT_in (w : World) : voidT.In w := by intro p hp; simp [voidT, T.places, T.placesL, T.placesD] at hp
/-- The method that an operator's work is. -/
def MethOf (u : TypeId) (x : Value) (gF : FuncId) : Prop := (∀ w : World, (method mD u x "coffret/expr.of").run Tryz.prog w = .ok (gF, x) w) ∧ ∀ (args : Array Value) (w : World), (callFunc gF args).run Tryz.prog w = .ok (.enter gF args) w
/-- What an operator makes of nodes, in k steps. -/
def OpTo (W : World) (d : T) (u : TypeId) (x : Value) (ga ln c : Nat) (k : Nat) (R : T → Prop) (err : Int) : Prop :=
  ∃ gF, MethOf u x gF ∧ ∀ (w : World) (g gb n : Nat), Below W.heap.size W w → W.heap.size ≤ g → WkAt w g gb d n → n + k ≤ 20000 → Calls Tryz.prog gF #[x, .pointer (some ⟨g, 0, none⟩), .slice (some ⟨ga, 0, none⟩) ln c] w (EvTo W.heap.size g gb (n + k) R err w)
set_option maxHeartbeats 2000000 in
theorem call_ev {W : World} {d : T} {u : TypeId} {x : Value} {ga ln c k : Nat} {R : T → Prop} {err : Int} (H : OpTo W d u x ga ln c k R err) (hs : err = 0 → ∀ r, R r → sizeV r.val ≤ 65536) (hz : err ≠ 0 → R voidT) :
    Ev W d 98 (.agg #[.iface u x, .slice (some ⟨ga, 0, none⟩) ln c]) k R err := by
  refine ⟨269, ⟨fun w => by kernel_rfl, fun args w => by kernel_rfl⟩, fun w g gb n hb hg hw hn => ?_⟩
  obtain ⟨gF, ⟨hm, hc⟩, hE⟩ := H
  unfold mD at hm
  have hgs := lt_of_block hw.row
  have b0 := below2 w (.cells #[.iface u x, .slice (some ⟨ga, 0, none⟩) ln c] 98 (0, 0)) (box 0 0)
  have r0 := heap_alloc_new (w.alloc (.cells #[.iface u x, .slice (some ⟨ga, 0, none⟩) ln c] 98 (0, 0))) (box 0 0)
  rw [World.size_alloc] at r0
  have hz0 : ((w.alloc (.cells #[.iface u x, .slice (some ⟨ga, 0, none⟩) ln c] 98 (0, 0))).alloc (box 0 0)).heap.size = w.heap.size + 2 := by simp
  generalize hU : (w.alloc (.cells #[.iface u x, .slice (some ⟨ga, 0, none⟩) ln c] 98 (0, 0))).alloc (box 0 0) = U at b0 r0 hz0
  have HE := Lib.hid (hE U g gb n (below_onlyG hb (Only.of_below b0) hg hb.size) hg (hw.then_ (Only.of_below b0) (row_then hw.row b0)) hn)
  have HU := Lib.hid (And.intro hU (And.intro b0 (And.intro r0 hz0)))
  clear hE hw hb b0 r0 hz0 hU
  unfold box at HU
  go_enter Tryz.func269, Tryz.ntmps269
  go_wp2_with fail
  rw [HU.out.1]
  refine HE.out.mono ?_
  rintro e w1 ⟨⟨rk, rm, rs, rla, rlc, rl, rda, rdc, rf⟩, rfl, hv, hok, hin, hout, ho, hrow⟩
  have X := keep_row ho HU.out.2.2.1 (by simp; omega)
  have HX := Lib.hid (And.intro X (And.intro hv (And.intro hok (And.intro hin (And.intro hout (And.intro ((Only.of_below HU.out.2.1).trans ho) (And.intro hrow ho.size)))))))
  clear hv hok hin hout ho hrow X
  dsimp only [T.arg, T.cells]
  by_cases he : err = 0
  · subst he
    have HS := Lib.hid (small_any _ HX.out.2.2.1 (hs rfl _ HX.out.2.1) w1 HX.out.2.2.2.1)
    dsimp only [T.arg, T.cells] at HS
    clear hs hz
    go_wp2_with fail
    refine HS.out.mono ?_
    rintro e w2 ⟨rfl, b2⟩
    have X2 := row_then HX.out.1 b2
    have cX := row_cells X2
    have fX := rowf X2
    clear HS
    go_wp2_with fail
    generalize hV : World.setCell _ _ _ = V'
    obtain ⟨t1, t2⟩ := put5V (row_then HX.out.1 b2) hV
    have q := row_cells t2
    obtain ⟨-, hv, hok, hin, hout, ho, hrow, hsz⟩ := HX.out
    have hUz := HU.out.2.2.2
    have hres : EvTo W.heap.size g gb (n + k) R 0 w (.returned (.tuple #[T.arg (.mk rk rm rs rla rlc rl rda rdc rf), .int .i64 0])) V' :=
      ⟨_, rfl, hv, hok, (hin.then_ b2).onlyG t1 (fun p hp => by rcases hout p hp with h | h <;> omega), fun p hp => (hout p hp).imp id (fun h => by omega), (ho.trans (Only.of_below b2)).then_ t1 (fun i hi => .inr (by simp at hi; omega)), by
        rw [t1.block g (by have := b2.size; omega) (by simp; omega)]
        exact row_then hrow b2⟩
    have HR := Lib.hid hres
    clear hV t1 t2 cX fX hv hok hin hout ho hrow hres HX HU X2 b2
    simp [bodyPost, results, Tryz.results269, go_sem, q]
    exact HR.out
  · have HS := Lib.hid (small_err (.agg #[.int .i64 rk, .int .i64 rm, .string rs, .slice rla rl.length rlc, .slice rda rf.length rdc]) rk rm rs _ _ rfl err he w1)
    dsimp only [scal] at HS
    go_wp2_with fail
    refine HS.out.mono ?_
    rintro e w2 ⟨rfl, b2⟩
    have X2 := row_then HX.out.1 b2
    have cX := row_cells X2
    have fX := rowf X2
    clear HS
    go_wp2_with fail
    generalize hV : World.setCell _ _ _ = V'
    obtain ⟨t1, t2⟩ := put5V (row_then HX.out.1 b2) hV
    have q := row_cells t2
    obtain ⟨-, hv, hok, hin, hout, ho, hrow, hsz⟩ := HX.out
    have hUz := HU.out.2.2.2
    have hres : EvTo W.heap.size g gb (n + k) R err w (.returned (.tuple #[T.arg voidT, .int .i64 err])) V' :=
      ⟨voidT, rfl, hz he, voidT_ok, voidT_in _, fun p hp => by simp [voidT, T.places, T.placesL, T.placesD] at hp, (ho.trans (Only.of_below b2)).then_ t1 (fun i hi => .inr (by simp at hi; omega)), by
        rw [t1.block g (by have := b2.size; omega) (by simp; omega)]
        exact row_then hrow b2⟩
    have HR := Lib.hid hres
    clear hV t1 t2 cX fX hv hok hin hout ho hrow hres HX HU X2 b2
    simp [bodyPost, results, Tryz.results269, go_sem, q]
    exact HR.out
end Go.Proofs.YtcpbdmgkeljkgaaGreatDoor
