/- The choice between two expressions. No statement is proved here. -/
import Derived.Test.YtcpbdmgkeljkgaaGreatDoorEGt
namespace Go.Proofs.YtcpbdmgkeljkgaaGreatDoor
open Go.RowKit
set_option maxRecDepth 100000

set_option maxHeartbeats 2000000 in
theorem evalOrNull_any {W : World} {d : T} {u : TypeId} {x : Value} {k : Nat} {R : T → Prop} (H : Ev W d u x k R 0) (hR : ∀ r, R r → misT r = false) (w : World) (g gb n : Nat) (hb : Below W.heap.size W w) (hg : W.heap.size ≤ g) (hw : WkAt w g gb d n) (hn : n + (k + 1) ≤ 20000) :
    Calls Tryz.prog 256 #[.pointer (some ⟨g, 0, none⟩), .iface u x] w (EvTo W.heap.size g gb (n + (k + 1)) R 0 w) := by
  have hgs := lt_of_block hw.row
  have o1 : Only [g] w (w.alloc (box 0 0)) := (Only.refl _ w).alloc _
  have b1 : Below W.heap.size W (w.alloc (box 0 0)) := hb.alloc (by have := hb.size; omega) _
  have k1 := hw.then_ o1 (row_then hw.row (below1 _ _))
  have HE := Lib.hid (eval_any H _ g gb n b1 hg k1 hn)
  have HO := Lib.hid (And.intro o1 (And.intro (heap_alloc_new w (box 0 0)) (World.size_alloc w (box 0 0))))
  unfold box at HE HO
  clear hw hb o1 b1 k1 H
  go_enter Tryz.func256, Tryz.ntmps256
  go_wp2_with fail
  refine HE.out.mono ?_
  rintro e w1 ⟨⟨rk, rm, rs, rla, rlc, rl, rda, rdc, rf⟩, rfl, hv, hok, hin, hout, ho, hrow⟩
  have hz := HO.out.2.2
  have hz1 := ho.size
  have HN := Lib.hid (fun w => orNull_any _ (hR _ hv) w)
  dsimp only [T.arg, T.cells] at HN
  have HX := Lib.hid (And.intro (keep_row ho HO.out.2.1 (by simp; omega)) (And.intro hv (And.intro hok (And.intro hin (And.intro hout (And.intro (HO.out.1.trans ho) hrow))))))
  clear hv hok hin hout ho hrow hR
  dsimp only [T.arg, T.cells]
  go_wp2_with fail
  refine (HN.out _).mono ?_
  rintro e w2 ⟨rfl, b2⟩
  have bX := below_then (below1 w1 _) b2
  have X2 := row_then HX.out.1 bX
  have HX2 := Lib.hid (And.intro X2 bX)
  have cX := row_cells X2
  have fX := rowf X2
  clear X2 b2 bX HN
  go_wp2_with fail
  generalize hV : World.setCell _ _ _ = V'
  obtain ⟨t1, t2⟩ := put5V HX2.out.1 hV
  have q := row_cells t2
  obtain ⟨-, hv, hok, hin, hout, ho, hrow⟩ := HX.out
  have hres : EvTo W.heap.size g gb (n + (k + 1)) R 0 w (.returned (.tuple #[T.arg (.mk rk rm rs rla rlc rl rda rdc rf), .int .i64 0])) V' :=
    ⟨_, rfl, hv, hok, (hin.then_ HX2.out.2).onlyG t1 (fun p hp => by rcases hout p hp with h | h <;> omega), fun p hp => (hout p hp).imp id (fun h => by omega), (ho.trans (Only.of_below HX2.out.2)).then_ t1 (fun i hi => .inr (by simp at hi; omega)), by
      rw [t1.block g (by have := HX2.out.2.size; omega) (by simp; omega)]
      exact row_then hrow HX2.out.2⟩
  have HRR := Lib.hid hres
  clear hV t1 t2 cX fX hv hok hin hout ho hrow hres HX HX2
  simp [bodyPost, results, Tryz.results256, go_sem, q]
  exact HRR.out
theorem truthT_any (w : World) : Calls Tryz.prog 145 #[.agg #[.int .i64 9, .int .i64 1, .string ⟨#[]⟩, .slice none 0 0, .slice none 0 0]] w fun e w' => e = .returned (.bool true) ∧ Below w.heap.size w w' := by
  go_enter Tryz.func145, Tryz.ntmps145
  go_wp2_with fail
  go_ret
  exact ⟨rfl, below1 _ _⟩
set_option maxHeartbeats 4000000 in
/-- A choice whose condition holds: the second expression. -/
theorem choice_op {W : World} {d : T} {a b : Nod} (H0 : Ev W d a.u a.x a.k a.R 0) (ha : ∀ r, a.R r → r = truT true) (H1 : Ev W d b.u b.x b.k b.R 0) (hb : ∀ r, b.R r → misT r = false) (ga c : Nat)
    (h0 : W.cell? ⟨ga, 0, none⟩ = some a.cell) (h1 : W.cell? ⟨ga, 1, none⟩ = some b.cell) :
    OpTo W d 142 (.agg #[.int .i64 3, .bool false]) ga 3 c (a.k + 1 + (b.k + 1)) b.R 0 := by
  refine ⟨283, ⟨fun w => by kernel_rfl, fun args w => by kernel_rfl⟩, fun w g gb n hbw hg hw hn => ?_⟩
  have hgs := lt_of_block hw.row
  have hlt0 := World.block_lt_of_cell? W _ h0
  have hlt1 := World.block_lt_of_cell? W _ h1
  have b0 := below2 w (.cells #[.int .i64 3, .bool false] 142 (0, 0)) (box 0 0)
  have r1 := heap_alloc_new (w.alloc (.cells #[.int .i64 3, .bool false] 142 (0, 0))) (box 0 0)
  rw [World.size_alloc] at r1
  have hz0 : ((w.alloc (.cells #[.int .i64 3, .bool false] 142 (0, 0))).alloc (box 0 0)).heap.size = w.heap.size + 2 := by simp
  generalize hU : (w.alloc (.cells #[.int .i64 3, .bool false] 142 (0, 0))).alloc (box 0 0) = U at b0 r1 hz0
  have HU := Lib.hid (And.intro hU (And.intro b0 (And.intro r1 hz0)))
  have bU : Below W.heap.size W U := below_onlyG hbw (Only.of_below b0) hg hbw.size
  have kU : WkAt U g gb d n := hw.then_ (Only.of_below b0) (row_then hw.row b0)
  have HW := Lib.hid (And.intro bU kU)
  have c0 : U.cell? ⟨ga, 0, none⟩ = some (.iface a.u a.x) := (bU.cell hlt0).trans h0
  have HC1 := Lib.hid (fun w' (hb' : Below W.heap.size W w') => (show w'.cell? ⟨ga, 1, none⟩ = some (.iface b.u b.x) from (hb'.cell hlt1).trans h1))
  have HE0 := Lib.hid (eval_any H0 U g gb n bU hg kU (by omega))
  have HE1 := Lib.hid (fun w' hb' hw' => evalOrNull_any H1 hb w' g gb (n + (a.k + 1)) hb' hg hw' (by omega))
  have HBZ := Lib.hid (And.intro hbw.size ha)
  clear H0 H1 h0 h1 hb hbw hw b0 r1 hz0 hU bU kU ha
  unfold box at HU
  rw [← HU.out.1] at c0
  go_enter Tryz.func283, Tryz.ntmps283
  go_wp2_with fail
  rw [HU.out.1]
  refine HE0.out.mono ?_
  rintro e w1 ⟨r, rfl, hv, hok, hin, hout, ho, hrow⟩
  obtain rfl := HBZ.out.2 r hv
  rw [show (truT true).arg = .agg #[.int .i64 9, .int .i64 1, .string ⟨#[]⟩, .slice none 0 0, .slice none 0 0] from rfl]
  have hlt : ga < U.heap.size := by have := HW.out.1.size; omega
  have b1 := below_onlyG HW.out.1 ho hg HW.out.1.size
  have HX := Lib.hid (And.intro (keep_row ho HU.out.2.2.1 (by simp; omega)) (And.intro b1 (And.intro (HW.out.2.then_ ho hrow) ho)))
  have hz := HU.out.2.2.2
  have hz1 := ho.size
  have HT := Lib.hid (fun w => truthT_any w)
  clear hv hok hin hout ho hrow b1 c0
  go_wp2_with fail
  refine (HT.out _).mono ?_
  rintro e w2 ⟨rfl, b2⟩
  have bX := below_then (below1 w1 _) b2
  have bW2 : Below W.heap.size W w2 := below_onlyG HX.out.2.1 (Only.of_below (S := [g]) bX) hg HX.out.2.1.size
  have c1 := HC1.out w2 bW2
  have hrw : w2.heap[g]? = some (wkRow gb (n + (a.k + 1))) := row_then HX.out.2.2.1.row bX
  have HE := Lib.hid (HE1.out w2 bW2 (HX.out.2.2.1.then_ (Only.of_below bX) hrw))
  have HX2 := Lib.hid (And.intro (row_then HX.out.1 bX) (And.intro bX bW2))
  have hz2 := bX.size
  clear b2 bX bW2 hrw
  go_wp2_with fail
  refine HE.out.mono ?_
  rintro e w3 ⟨⟨rk, rm, rs, rla, rlc, rl, rda, rdc, rf⟩, rfl, hv, hok, hin, hout, ho, hrow⟩
  dsimp only [T.arg, T.cells]
  have X3 := keep_row ho HX2.out.1 (by simp; omega)
  have cX := row_cells X3
  have fX := rowf X3
  have HX3 := Lib.hid (And.intro X3 (And.intro hv (And.intro hok (And.intro hin (And.intro hout (And.intro (((((Only.of_below (S := [g]) HU.out.2.1).trans HX.out.2.2.2).trans (Only.of_below HX2.out.2.1)).trans ho)) hrow))))))
  have hz3 := ho.size
  clear X3 hv hok hin hout ho hrow c1
  go_wp2_with fail
  generalize hV : World.setCell _ _ _ = V'
  obtain ⟨t1, t2⟩ := put5V HX3.out.1 hV
  have q := row_cells t2
  obtain ⟨-, hv, hok, hin, hout, ho, hrow⟩ := HX3.out
  have hWz := HBZ.out.1
  have hres : EvTo W.heap.size g gb (n + (a.k + 1 + (b.k + 1))) b.R 0 w (.returned (.tuple #[T.arg (.mk rk rm rs rla rlc rl rda rdc rf), .int .i64 0])) V' :=
    ⟨_, rfl, hv, hok, hin.onlyG t1 (fun p hp => by rcases hout p hp with h | h <;> omega), fun p hp => (hout p hp).imp id (fun h => by omega), ho.then_ t1 (fun i hi => .inr (by simp at hi; omega)), by
      rw [t1.block g (by omega) (by simp; omega), ← Nat.add_assoc]
      exact hrow⟩
  have HRR := Lib.hid hres
  clear hV t1 t2 cX fX hv hok hin hout ho hrow hres HX HX2 HX3
  simp [bodyPost, results, Tryz.results283, go_sem, q]
  exact HRR.out
end Go.Proofs.YtcpbdmgkeljkgaaGreatDoor
