/- What the program's read, Read and Decode answer, over the contract of document. No statement is proved here. -/
import Derived.Test.YtjfgmcmnpekahaaDoorBVal
import Derived.Defers
import Derived.Recover
import Derived.StillTailTactics
import Derived.Deep.RegionLaw
namespace Go.Proofs.YtjfgmcmnpekahaaDoor
open Go.RowKit
set_option maxRecDepth 100000

set_option maxHeartbeats 4000000 in
theorem catch_idle (b0 b1 b2 : Nat) (w : World) :
    CallsD Tryd.prog 45 #[.pointer (some ⟨b0, 0, none⟩), .pointer (some ⟨b1, 0, none⟩), .pointer (some ⟨b2, 0, none⟩)] .returning w fun e u' w' => e = .returned (.tuple #[]) ∧ u' = .returning ∧ w' = w := by
  refine callsD_of_wpS Tryd.func45 rfl fun c₀ cs hu => ?_
  apply wpS_seq
  apply wpS_region
  simp [wpOpsS, go_sem, recoverD, hu, Tryd.ntmps45, Exit.thenS]
  refine wpS_of_wp ?_
  go_wp2_with fail
  cases c₀
  simp_all [bodyPostS, results, Tryd.results45]

theorem only_five (w : World) (g : Nat) (b0 b1 b2 b3 b4 : Value) : Only [g] w (((((w.setCell ⟨g, 0, none⟩ b0).setCell ⟨g, 1, none⟩ b1).setCell ⟨g, 2, none⟩ b2).setCell ⟨g, 3, none⟩ b3).setCell ⟨g, 4, none⟩ b4) :=
  (((((Only.refl [g] w).setCell (.inl (by simp)) _).setCell (.inl (by simp)) _).setCell (.inl (by simp)) _).setCell (.inl (by simp)) _).setCell (.inl (by simp)) _
/-- Three boxes laid anew. -/
theorem three_laid {W : World} {b0 b1 b2 : Nat} {x0 x1 x2 x3 x4 xe f0 f1 v0 v1 v2 v3 v4 ve vc vq : Value} (r0 : W.heap[b0]? = some (.cells #[x0, x1, x2, x3, x4] 25 (0, 0))) (r1 : W.heap[b1]? = some (.cells #[xe] 3 (0, 0))) (r2 : W.heap[b2]? = some (.cells #[f0, f1] 36 (0, 0))) (n1 : b0 ≠ b1) (n2 : b0 ≠ b2) (n3 : b1 ≠ b2) {w' : World} (hw : w' = (((((((((W.setCell ⟨b0, 0, none⟩ v0).setCell ⟨b0, 1, none⟩ v1).setCell ⟨b0, 2, none⟩ v2).setCell ⟨b0, 3, none⟩ v3).setCell ⟨b0, 4, none⟩ v4).setCell ⟨b1, 0, none⟩ ve).setCell ⟨b2, 0, none⟩ vc).setCell ⟨b2, 1, none⟩ vq).drew)) :
    Only [b0, b1, b2] W w' ∧ w'.heap[b0]? = some (.cells #[v0, v1, v2, v3, v4] 25 (0, 0)) ∧ w'.heap[b1]? = some (.cells #[ve] 3 (0, 0)) ∧ w'.heap[b2]? = some (.cells #[vc, vq] 36 (0, 0)) := by
  subst hw
  have hb0 : ∀ o, (⟨b0, o, none⟩ : Addr).block ∈ [b0, b1, b2] ∨ W.heap.size ≤ b0 := fun o => .inl (by simp)
  have hb1 : ∀ o, (⟨b1, o, none⟩ : Addr).block ∈ [b0, b1, b2] ∨ W.heap.size ≤ b1 := fun o => .inl (by simp)
  have hb2 : ∀ o, (⟨b2, o, none⟩ : Addr).block ∈ [b0, b1, b2] ∨ W.heap.size ≤ b2 := fun o => .inl (by simp)
  have a0 := heap_setCell_same W b0 0 _ _ v0 r0
  have a1 := heap_setCell_same _ b0 1 _ _ v1 a0
  have a2 := heap_setCell_same _ b0 2 _ _ v2 a1
  have a3 := heap_setCell_same _ b0 3 _ _ v3 a2
  have a4 := heap_setCell_same _ b0 4 _ _ v4 a3
  have o5 := only_five W b0 v0 v1 v2 v3 v4
  have c1 := keep_row o5 r1 (by simpa using n1.symm)
  have c2 := keep_row o5 r2 (by simpa using n2.symm)
  generalize hU : ((((W.setCell ⟨b0, 0, none⟩ v0).setCell ⟨b0, 1, none⟩ v1).setCell ⟨b0, 2, none⟩ v2).setCell ⟨b0, 3, none⟩ v3).setCell ⟨b0, 4, none⟩ v4 = U at *
  have d1 := heap_setCell_same U b1 0 _ _ ve c1
  have o6 : Only [b1] U (U.setCell ⟨b1, 0, none⟩ ve) := (Only.refl [b1] U).setCell (p := ⟨b1, 0, none⟩) (.inl (by simp)) _
  have d0 := keep_row o6 a4 (by simpa using n1)
  have d2 := keep_row o6 c2 (by simpa using n3.symm)
  generalize hX : U.setCell ⟨b1, 0, none⟩ ve = X at *
  have e2 := heap_setCell_same X b2 0 _ _ vc d2
  have f2 := heap_setCell_same _ b2 1 _ _ vq e2
  have o7 : Only [b2] X ((X.setCell ⟨b2, 0, none⟩ vc).setCell ⟨b2, 1, none⟩ vq) := ((Only.refl [b2] X).setCell (p := ⟨b2, 0, none⟩) (.inl (by simp)) _).setCell (p := ⟨b2, 1, none⟩) (.inl (by simp)) _
  have g0 := keep_row o7 d0 (by simpa using n2)
  have g1 := keep_row o7 d1 (by simpa using n3)
  exact ⟨((((o5.mono (S' := [b0, b1, b2]) (by simp)).then_ o6 (by simp)).then_ o7 (by simp))).drew, g0, g1, f2⟩
theorem assert_fault (v : Value) (s : TypeId) (w : World) : (Sem.run Tryd.prog (Instr.typeAssert (.iface 36 v) s 36 true) w) = .ok (.tuple #[v, .bool true]) w := rfl
set_option maxHeartbeats 4000000 in
theorem catch_fault (b0 b1 b2 : Nat) (c q x : Int) (x0 x1 x2 x3 x4 f0 f1 : Value) (older : List PanicEntry) (w : World) (r0 : w.heap[b0]? = some (.cells #[x0, x1, x2, x3, x4] 25 (0, 0))) (r1 : w.heap[b1]? = some (.cells #[.int .i64 x] 3 (0, 0))) (r2 : w.heap[b2]? = some (.cells #[f0, f1] 36 (0, 0))) (n1 : b0 ≠ b1) (n2 : b0 ≠ b2) (n3 : b1 ≠ b2) :
    CallsD Tryd.prog 45 #[.pointer (some ⟨b0, 0, none⟩), .pointer (some ⟨b1, 0, none⟩), .pointer (some ⟨b2, 0, none⟩)] (.panicking ({ v := .iface 36 (.agg #[.int .i64 c, .int .i64 q]), recovered := false } :: older)) w fun e u' w' => e = .returned (.tuple #[]) ∧ u' = .panicking ({ v := .iface 36 (.agg #[.int .i64 c, .int .i64 q]), recovered := true } :: older) ∧ Only [b0, b1, b2] w w' ∧ w'.heap[b0]? = some (.cells #[.int .i64 0, .int .i64 0, .string ⟨#[]⟩, .slice none 0 0, .slice none 0 0] 25 (0, 0)) ∧ w'.heap[b1]? = some (.cells #[.int .i64 0] 3 (0, 0)) ∧ w'.heap[b2]? = some (.cells #[.int .i64 c, .int .i64 q] 36 (0, 0)) := by
  have HR0 := Lib.hid r0
  have HR1 := Lib.hid r1
  have HR2 := Lib.hid r2
  have HN := Lib.hid (And.intro n1 (And.intro n2 n3))
  clear r0 r1 r2 n1 n2 n3
  refine callsD_of_wpS Tryd.func45 rfl fun c₀ cs hu => ?_
  apply wpS_seq
  apply wpS_region
  simp [wpOpsS, go_sem, recoverD, hu, Tryd.ntmps45, Exit.thenS]
  refine wpS_of_wp ?_
  rw [show (#[Value.pointer (some { block := b0, off := 0 }), Value.pointer (some { block := b1, off := 0 }), Value.pointer (some { block := b2, off := 0 })] ++ (Array.replicate 11 undef).setIfInBounds 3 (Value.iface 36 (Value.agg #[Value.int IntKind.i64 c, Value.int IntKind.i64 q])) : Array Value) = #[Value.pointer (some { block := b0, off := 0 }), Value.pointer (some { block := b1, off := 0 }), Value.pointer (some { block := b2, off := 0 }), undef, undef, undef, Value.iface 36 (Value.agg #[Value.int IntKind.i64 c, Value.int IntKind.i64 q]), undef, undef, undef, undef, undef, undef, undef] from rfl]
  have ha := fun v s w => assert_fault v s w
  go_wp2_with fail
  generalize hW : w.alloc _ = W
  have m3 : ∀ o, W.cell? ⟨w.heap.size, o, none⟩ = (#[.int .i64 c, .int .i64 q] : Array Value)[o]? := by subst hW; exact row_cells (heap_alloc_new _ _)
  have bel : Below w.heap.size w W := by subst hW; exact below1 _ _
  have s0 := row_then HR0.out bel
  have s1 := row_then HR1.out bel
  have s2 := row_then HR2.out bel
  have k0 := row_cells s0
  have k1 := row_cells s1
  have k2 := row_cells s2
  have z0 := rowf s0
  have z1 := rowf s1
  have z2 := rowf s2
  have HS := Lib.hid (And.intro s0 (And.intro s1 s2))
  have HB := Lib.hid bel
  obtain ⟨n1, n2, n3⟩ := HN.out
  clear s0 s1 s2 bel ha hu
  have HWW := Lib.hid hW
  clear hW
  have e0 := Nat.ne_of_lt (lt_of_block HR0.out)
  have e1 := Nat.ne_of_lt (lt_of_block HR1.out)
  have e2 := Nat.ne_of_lt (lt_of_block HR2.out)
  generalize w.heap.size = H at m3 e0 e1 e2
  go_region_law (fail)
  all_goals
    obtain ⟨s0, s1, s2⟩ := HS.out
    generalize hV : World.drew _ = V
    obtain ⟨t1, t2, t3, t4⟩ := three_laid s0 s1 s2 n1 n2 n3 hV.symm
    have t5 := (Only.of_below HB.out).then_ t1 (S := [b0, b1, b2]) (by simp)
    have HT := Lib.hid (And.intro t5 (And.intro t2 (And.intro t3 t4)))
    clear hV t1 t2 t3 t4 t5 s0 s1 s2 HS HB HWW HR0 HR1 HR2 HN m3 e0 e1 e2 k0 k1 k2 z0 z1 z2
    dsimp only [Exit.inBlock, Exit.then, Exit.thenS]
    simp +zetaDelta [bodyPostS, results, Tryd.results45]
    exact HT.out
end Go.Proofs.YtjfgmcmnpekahaaDoor
namespace Go.Proofs.YtjfgmcmnpekahaaDoor
open Go.RowKit
set_option maxRecDepth 100000

/-- A piece of code in a function that defers, shown not to leave early. -/
theorem wp_normal {P : Program} {c : Code} {Q : Exit → Act → World → Prop} {a : Act} {w : World} (h : c.wp P (fun e a' w' => match e with | .normal => Q .normal a' w' | _ => False) a w) : c.wp P Q a w := Code.wp_mono (fun e a w h => by cases e <;> first | exact h | exact h.elim) h
theorem heap_size_alloc (w : World) (o : Obj) : (w.alloc o).heap.size = w.heap.size + 1 := by simp [go_sem]
/-- Three boxes of one's own. -/
theorem three_new (w : World) (V0 V1 V2 : Obj) : Below w.heap.size w (((w.alloc V0).alloc V1).alloc V2) ∧ (((w.alloc V0).alloc V1).alloc V2).heap[w.heap.size]? = some V0 ∧ (((w.alloc V0).alloc V1).alloc V2).heap[w.heap.size + 1]? = some V1 ∧ (((w.alloc V0).alloc V1).alloc V2).heap[w.heap.size + 1 + 1]? = some V2 := by
  have b2 := below2 w V0 V1
  have hs1 : (w.alloc V0).heap.size = w.heap.size + 1 := heap_size_alloc _ _
  have hs : ((w.alloc V0).alloc V1).heap.size = w.heap.size + 1 + 1 := (heap_size_alloc _ _).trans (by rw [hs1])
  have z0 := heap_alloc2_old w V0 V1
  have z1 := heap_alloc_new (w.alloc V0) V1
  rw [hs1] at z1
  have z2 := heap_alloc_new ((w.alloc V0).alloc V1) V2
  rw [hs] at z2
  have b3 : Below ((w.alloc V0).alloc V1).heap.size ((w.alloc V0).alloc V1) (((w.alloc V0).alloc V1).alloc V2) := below1 _ _
  exact ⟨b2.trans (b3.mono (by omega)), (b3.block _ (lt_of_block z0)).trans z0, (b3.block _ (lt_of_block z1)).trans z1, z2⟩
/-- What reading a whole document answers. -/
def RdT (res : Res V) (g : Nat) (K : Byt) (i r : Nat) (dp : Int) (w : World) (e : Ending) (w' : World) : Prop :=
  Only [g] w w' ∧ match res with
  | .bad c q => e = .returned (.tuple #[.agg #[.int .i64 0, .int .i64 0, .string ⟨#[]⟩, .slice none 0 0, .slice none 0 0], .int .i64 0, .agg #[.int .i64 c, .int .i64 q]])
  | .ok v m => ∃ t : T, e = .returned (.tuple #[t.arg, .int .i64 ((i + m : Nat) : Int), .agg #[.int .i64 0, .int .i64 0]]) ∧ t.val = v ∧ t.Own w' w.heap.size
set_option maxHeartbeats 4000000 in
theorem rd_any {g : Nat} {K : Byt} {i r : Nat} {dp : Int} (n : Nat) (hD : DocAt n) (w : World) (h : Cur w g K i r dp) (hd0 : 0 ≤ dp) (hd1 : dp ≤ 20) {B : Nat} (hE : Env2 w B) (hgB : B ≤ g) (hn : r - i + 2 ≤ n) : Calls Tryd.prog 30 #[.pointer (some ⟨g, 0, none⟩)] w (RdT (docR n false (dp + 1) (K.rest i r) i) g K i r dp w) := by
  have HC := Lib.hid h
  have HE := Lib.hid hE
  have HG := Lib.hid (lt_of_block h.row)
  have HD := Lib.hid hD
  have HN := Lib.hid hn
  clear h hE hD hn
  go_enter_defers Tryd.func30, Tryd.ntmps30
  go_wp2_with fail
  have hb3 := three_new w (.cells #[.int .i64 0, .int .i64 0, .string ⟨#[]⟩, .slice none 0 0, .slice none 0 0] 25) (.cells #[.int .i64 0] 3) (.cells #[.int .i64 0, .int .i64 0] 36)
  generalize hU : ((w.alloc (.cells #[.int .i64 0, .int .i64 0, .string ⟨#[]⟩, .slice none 0 0, .slice none 0 0] 25)).alloc (.cells #[.int .i64 0] 3)).alloc (.cells #[.int .i64 0, .int .i64 0] 36) = U at hb3 ⊢
  obtain ⟨b3, y0, y1, y2⟩ := hb3
  have HCU := Lib.hid (HC.out.then_ b3)
  have HEU := Lib.hid (HE.out.then_ b3)
  have HY := Lib.hid (And.intro y0 (And.intro y1 y2))
  have HU := Lib.hid hU
  have HB := Lib.hid b3
  clear hU b3 y0 y1 y2
  refine (HD.out U g K i r dp B HCU.out hd0 hd1 HEU.out hgB HN.out).mono ?_
  rintro e w3 ⟨ho, hres⟩
  have hgl := HG.out
  have x0 := keep_row ho HY.out.1 (by simp; omega)
  have x1 := keep_row ho HY.out.2.1 (by simp; omega)
  have x2 := keep_row ho HY.out.2.2 (by simp; omega)
  have HO := Lib.hid ((Only.of_below HB.out).then_ ho (S := [g]) (by simp))
  clear hgl ho
  rcases hT : docR n false (dp + 1) (K.rest i r) i with ⟨c, q⟩ | ⟨v, m⟩
  · rw [hT] at hres
    obtain rfl := hres
    dsimp only [faultE]
    have HX := Lib.hid (And.intro x0 (And.intro x1 x2))
    clear x0 x1 x2
    go_wp2_with fail
    dsimp only [bodyPostD]
    refine leaves_cons (f := 45) (args := #[.pointer (some ⟨w.heap.size, 0, none⟩), .pointer (some ⟨w.heap.size + 1, 0, none⟩), .pointer (some ⟨w.heap.size + 1 + 1, 0, none⟩)]) (by simp) (by simp [go_sem]) ?_
    obtain ⟨x0, x1, x2⟩ := HX.out
    refine (catch_fault w.heap.size (w.heap.size + 1) (w.heap.size + 1 + 1) c q 0 _ _ _ _ _ _ _ [] w3 x0 x1 x2 (by omega) (by omega) (by omega)).mono ?_
    rintro e u' w4 ⟨rfl, rfl, o4, q0, q1, q2⟩
    have k0 := row_cells q0
    have k1 := row_cells q1
    have k2 := row_cells q2
    have HO4 := Lib.hid o4
    clear o4 q0 q1 q2 x0 x1 x2
    dsimp only
    simp [Leaves, settle, results, Tryd.results30, go_sem, k0, k1, k2]
    refine ⟨?_, rfl⟩
    exact HO.out.then_ HO4.out (by simp; omega)
  · rw [hT] at hres
    obtain ⟨t, rfl, ht, hto, hcur⟩ := hres
    have HX := Lib.hid (And.intro x0 (And.intro x1 x2))
    have HT := Lib.hid (And.intro ht hto)
    have HCC := Lib.hid hcur
    clear x0 x1 x2 ht hto hcur
    obtain ⟨kk, kn, ks, la, ll, lc, da, dl, dc, hta⟩ : ∃ (kk kn : Int) (ks : ByteArray) (la : Option Addr) (ll lc : Nat) (da : Option Addr) (dl dc : Nat), t.arg = .agg #[.int .i64 kk, .int .i64 kn, .string ks, .slice la ll lc, .slice da dl dc] := by
      cases t
      exact ⟨_, _, _, _, _, _, _, _, _, rfl⟩
    have HTA := Lib.hid hta
    rw [hta]
    clear hta
    have k0 := row_cells HX.out.1
    have z0 := rowf HX.out.1
    go_wp2_with fail
    clear k0 z0
    have o5 := only_five w3 w.heap.size (.int .i64 kk) (.int .i64 kn) (.string ks) (.slice la ll lc) (.slice da dl dc)
    obtain ⟨x0, x1, x2⟩ := HX.out
    have a0 := heap_setCell_same w3 w.heap.size 0 _ _ (.int .i64 kk) x0
    have a1 := heap_setCell_same _ w.heap.size 1 _ _ (.int .i64 kn) a0
    have a2 := heap_setCell_same _ w.heap.size 2 _ _ (.string ks) a1
    have a3 := heap_setCell_same _ w.heap.size 3 _ _ (.slice la ll lc) a2
    have a4 := heap_setCell_same _ w.heap.size 4 _ _ (.slice da dl dc) a3
    have c1 := keep_row o5 x1 (by simp)
    have c2 := keep_row o5 x2 (by simp; omega)
    have cg := keep_row o5 HCC.out.row (by have := HG.out; simp; omega)
    generalize hY : ((((w3.setCell ⟨w.heap.size, 0, none⟩ (.int .i64 kk)).setCell ⟨w.heap.size, 1, none⟩ (.int .i64 kn)).setCell ⟨w.heap.size, 2, none⟩ (.string ks)).setCell ⟨w.heap.size, 3, none⟩ (.slice la ll lc)).setCell ⟨w.heap.size, 4, none⟩ (.slice da dl dc) = Y at *
    clear a0 a1 a2 a3 x0 x1 x2
    have e0 := Nat.ne_of_lt HG.out
    have e1 := Nat.ne_of_lt (Nat.lt_succ_of_lt HG.out)
    have e2 := Nat.ne_of_lt (Nat.lt_succ_of_lt (Nat.lt_succ_of_lt HG.out))
    have n1 : w.heap.size ≠ w.heap.size + 1 := by omega
    have n2 : w.heap.size ≠ w.heap.size + 1 + 1 := by omega
    have n3 : w.heap.size + 1 ≠ w.heap.size + 1 + 1 := by omega
    have HN := Lib.hid (And.intro n1 (And.intro n2 n3))
    have k0 := row_cells a4
    have k1 := row_cells c1
    have k2 := row_cells c2
    have kg := row_cells cg
    have z0 := rowf a4
    have z1 := rowf c1
    have z2 := rowf c2
    have HR := Lib.hid (And.intro a4 (And.intro c1 (And.intro c2 o5)))
    clear a4 c1 c2 cg o5
    have HYY := Lib.hid hY
    clear hY
    generalize hH : w.heap.size = H at k0 k1 k2 kg z0 z1 z2 e0 e1 e2 n1 n2 n3
    have HH := Lib.hid hH
    clear hH
    refine wp_normal ?_
    go_region_law (fail)
    all_goals
      have hH := HH.out
      clear HH k0 k1 k2 kg z0 z1 z2 e0 e1 e2
      subst hH
      dsimp only [Exit.then]
      generalize hV : World.drew _ = V
      obtain ⟨s0, s1, s2, o5⟩ := HR.out
      obtain ⟨t1, t2, t3, t4⟩ := three_laid s0 s1 s2 n1 n2 n3 hV.symm
      have HTT := Lib.hid (And.intro t1 (And.intro t2 (And.intro t3 t4)))
      have HO5 := Lib.hid o5
      clear hV t1 t2 t3 t4 s0 s1 s2 o5 HR HYY n1 n2 n3
      go_wp2_with fail
      try dsimp only [bodyPostD]
      refine leaves_cons (f := 45) (args := #[.pointer (some ⟨w.heap.size, 0, none⟩), .pointer (some ⟨w.heap.size + 1, 0, none⟩), .pointer (some ⟨w.heap.size + 1 + 1, 0, none⟩)]) (by simp) (by simp [go_sem]) ?_
      refine (catch_idle w.heap.size (w.heap.size + 1) (w.heap.size + 1 + 1) V).mono ?_
      rintro e u' w4 ⟨rfl, rfl, rfl⟩
      obtain ⟨t1, t2, t3, t4⟩ := HTT.out
      have q0 := row_cells t2
      have q1 := row_cells t3
      have q2 := row_cells t4
      clear t1 t2 t3 t4
      dsimp only
      simp [Leaves, settle, results, Tryd.results30, go_sem, q0, q1, q2]
      obtain ⟨t1, t2, t3, t4⟩ := HTT.out
      obtain ⟨ht, hto⟩ := HT.out
      rw [hT]
      have o6 := (HO5.out.mono (S' := [w.heap.size, w.heap.size + 1, w.heap.size + 1 + 1]) (by simp)).trans t1
      refine ⟨?_, t, ?_, ht, ?_⟩
      · exact HO.out.then_ o6 (by simp; omega)
      · rw [HTA.out]; simp
      · have hl := lt_of_block HY.out.2.2
        exact hto.keep o6 (by intro b hb; simp at hb; omega) (by omega)
end Go.Proofs.YtjfgmcmnpekahaaDoor
namespace Go.Proofs.YtjfgmcmnpekahaaDoor
open Go.RowKit
set_option maxRecDepth 100000

/-- Two boxes laid anew. -/
theorem two_laid {W : World} {b0 b1 : Nat} {x0 x1 x2 x3 x4 f0 f1 v0 v1 v2 v3 v4 vc vq : Value} (r0 : W.heap[b0]? = some (.cells #[x0, x1, x2, x3, x4] 25 (0, 0))) (r1 : W.heap[b1]? = some (.cells #[f0, f1] 36 (0, 0))) (n1 : b0 ≠ b1) {w' : World} (hw : w' = (((((((W.setCell ⟨b0, 0, none⟩ v0).setCell ⟨b0, 1, none⟩ v1).setCell ⟨b0, 2, none⟩ v2).setCell ⟨b0, 3, none⟩ v3).setCell ⟨b0, 4, none⟩ v4).setCell ⟨b1, 0, none⟩ vc).setCell ⟨b1, 1, none⟩ vq)) :
    Only [b0, b1] W w' ∧ w'.heap[b0]? = some (.cells #[v0, v1, v2, v3, v4] 25 (0, 0)) ∧ w'.heap[b1]? = some (.cells #[vc, vq] 36 (0, 0)) := by
  subst hw
  have a0 := heap_setCell_same W b0 0 _ _ v0 r0
  have a1 := heap_setCell_same _ b0 1 _ _ v1 a0
  have a2 := heap_setCell_same _ b0 2 _ _ v2 a1
  have a3 := heap_setCell_same _ b0 3 _ _ v3 a2
  have a4 := heap_setCell_same _ b0 4 _ _ v4 a3
  have o5 := only_five W b0 v0 v1 v2 v3 v4
  have c1 := keep_row o5 r1 (by simpa using n1.symm)
  generalize hU : ((((W.setCell ⟨b0, 0, none⟩ v0).setCell ⟨b0, 1, none⟩ v1).setCell ⟨b0, 2, none⟩ v2).setCell ⟨b0, 3, none⟩ v3).setCell ⟨b0, 4, none⟩ v4 = U at *
  have e2 := heap_setCell_same U b1 0 _ _ vc c1
  have f2 := heap_setCell_same _ b1 1 _ _ vq e2
  have o7 : Only [b1] U ((U.setCell ⟨b1, 0, none⟩ vc).setCell ⟨b1, 1, none⟩ vq) := ((Only.refl [b1] U).setCell (p := ⟨b1, 0, none⟩) (.inl (by simp)) _).setCell (p := ⟨b1, 1, none⟩) (.inl (by simp)) _
  exact ⟨(o5.mono (S' := [b0, b1]) (by simp)).then_ o7 (by simp), keep_row o7 a4 (by simpa using n1), f2⟩
/-- What Read and Decode answer: a value of one's own, or a fault. -/
def RdTo (res : Res V) (pl : Nat → Array Value) (w : World) (e : Ending) (w' : World) : Prop :=
  Below w.heap.size w w' ∧ match res with
  | .bad c q => e = .returned (.tuple (#[.agg #[.int .i64 0, .int .i64 0, .string ⟨#[]⟩, .slice none 0 0, .slice none 0 0]] ++ pl 0 ++ #[.agg #[.int .i64 c, .int .i64 q]]))
  | .ok v m => ∃ t : T, e = .returned (.tuple (#[t.arg] ++ pl m ++ #[.agg #[.int .i64 0, .int .i64 0]])) ∧ t.val = v ∧ t.Own w' w.heap.size
def placeA (m : Nat) : Array Value := #[.int .i64 (m : Int)]
set_option maxHeartbeats 4000000 in
theorem Rd_any (a : Option Addr) (c : Nat) (bs : List Int) (p : Int) (n : Nat) (hD : DocAt n) (w : World) (hin : InB w a bs) (hc : bs.length ≤ c) (hfar : bs.length ≤ 140737488351232) (hby : isB bs) (hlow : ∀ b o, a = some ⟨b, o, none⟩ → 1 ≤ bs.length → b < w.heap.size) {B : Nat} (hE : Env2 w B) (hB : B ≤ w.heap.size) (hn : bs.length + 2 ≤ n) :
    Calls Tryd.prog 18 #[.slice a bs.length c, .int .i64 p] w (RdTo (readF n bs p) placeA w) := by
  have HI := Lib.hid hin
  have HE := Lib.hid hE
  have HD := Lib.hid hD
  have HN := Lib.hid hn
  have HL := Lib.hid hlow
  have HBY := Lib.hid hby
  have HFA := Lib.hid hfar
  clear hin hE hD hn hlow hby hfar
  go_enter Tryd.func18, Tryd.ntmps18
  go_wp2_with fail
  · have hx : readF n bs p = .bad 1 (-1) := by unfold readF; rw [if_pos (by assumption)]
    simp [bodyPost, results, Tryd.results18, go_sem, RdTo, hx, placeA]
    exact below2 _ _ _
  · rename_i hp0 hpr _ _
    have hb3 := three_new w (.cells #[.int .i64 0, .int .i64 0, .string ⟨#[]⟩, .slice none 0 0, .slice none 0 0] 25) (.cells #[.int .i64 0, .int .i64 0] 36) (.cells #[.slice a bs.length c, .int .i64 p, .int .i64 bs.length, .int .i64 0] 61)
    generalize hU : ((w.alloc (.cells #[.int .i64 0, .int .i64 0, .string ⟨#[]⟩, .slice none 0 0, .slice none 0 0] 25)).alloc (.cells #[.int .i64 0, .int .i64 0] 36)).alloc (.cells #[.slice a bs.length c, .int .i64 p, .int .i64 bs.length, .int .i64 0] 61) = U at hb3 ⊢
    obtain ⟨b3, y0, y1, y2⟩ := hb3
    obtain ⟨i, rfl⟩ : ∃ i : Nat, p = i := ⟨p.toNat, by omega⟩
    have hC : Cur U (w.heap.size + 1 + 1) ⟨a, c, bs⟩ i bs.length 0 := ⟨y2, HI.out.then_ b3, (fun b o e h1 => by have := HL.out b o e h1; omega), by omega, Nat.le_refl _, hc, HFA.out, HBY.out⟩
    have HEU := Lib.hid (HE.out.then_ b3)
    have HY := Lib.hid (And.intro y0 (And.intro y1 y2))
    have HB := Lib.hid b3
    have HC := Lib.hid hC
    clear hU b3 y0 y1 y2 hC
    refine (rd_any n HD.out U HC.out (by omega) (by omega) HEU.out (by omega) (by have hnn := HN.out; show bs.length - i + 2 ≤ n; omega)).mono ?_
    rintro e w3 ⟨ho, hres⟩
    have hrest : (Byt.rest ⟨a, c, bs⟩ i bs.length) = bs.drop i := by show (bs.drop i).take (bs.length - i) = bs.drop i; exact List.take_of_length_le (by rw [List.length_drop]; exact Nat.le_refl _)
    rw [hrest] at hres
    have hrd : (∃ c q, readF n bs i = .bad c q ∧ docR n false (0 + 1) (bs.drop i) i = .bad c q) ∨ ∃ v m, readF n bs i = .ok v (i + m) ∧ docR n false (0 + 1) (bs.drop i) i = .ok v m := by
      unfold readF docR
      rw [if_neg (by omega), Int.toNat_natCast, Int.zero_add]
      cases docF n false 1 (bs.drop i) i with
      | bad c q => exact .inl ⟨_, _, rfl, rfl⟩
      | ok d m => exact .inr ⟨_, m, rfl, rfl⟩
    have HRD := Lib.hid hrd
    have x0 := keep_row ho HY.out.1 (by simp; omega)
    have x1 := keep_row ho HY.out.2.1 (by simp)
    have k0 := row_cells x0
    have k1 := row_cells x1
    have z0 := rowf x0
    have z1 := rowf x1
    have HX := Lib.hid (And.intro x0 x1)
    have HO := Lib.hid ((Only.of_below HB.out).then_ ho (S := []) (by simp; omega))
    clear hrd hrest x0 x1 ho
    rcases hT : docR n false (0 + 1) (bs.drop i) i with ⟨c', q⟩ | ⟨v, m⟩
    · rw [hT] at hres
      obtain rfl := hres
      dsimp only
      go_wp2_with fail
      generalize hV : World.setCell _ _ _ = V
      obtain ⟨t1, t2, t3⟩ := two_laid HX.out.1 HX.out.2 (by omega) hV.symm
      have q0 := row_cells t2
      have q1 := row_cells t3
      have hO := HO.out.then_ t1 (S := []) (by simp)
      have HH := Lib.hid (And.intro hO t1)
      clear hV t1 t2 t3 k0 k1 z0 z1 hO
      simp [bodyPost, results, Tryd.results18, go_sem, q0, q1]
      have hx : readF n bs i = .bad c' q := by
        rcases HRD.out with ⟨c2, q2, h, h2⟩ | ⟨v, m, h, h2⟩
        · rw [hT] at h2; cases h2; exact h
        · rw [hT] at h2; cases h2
      refine ⟨HH.out.1.below, ?_⟩
      rw [hx]
      rfl
    · rw [hT] at hres
      obtain ⟨t, rfl, ht, hto⟩ := hres
      have HT := Lib.hid (And.intro ht hto)
      clear ht hto
      obtain ⟨kk, kn, ks, la, ll, lc, da, dl, dc, hta⟩ : ∃ (kk kn : Int) (ks : ByteArray) (la : Option Addr) (ll lc : Nat) (da : Option Addr) (dl dc : Nat), t.arg = .agg #[.int .i64 kk, .int .i64 kn, .string ks, .slice la ll lc, .slice da dl dc] := by
        cases t
        exact ⟨_, _, _, _, _, _, _, _, _, rfl⟩
      have HTA := Lib.hid hta
      rw [hta]
      clear hta
      dsimp only
      go_wp2_with fail
      generalize hV : World.setCell _ _ _ = V
      obtain ⟨t1, t2, t3⟩ := two_laid HX.out.1 HX.out.2 (by omega) hV.symm
      have q0 := row_cells t2
      have q1 := row_cells t3
      have hO := HO.out.then_ t1 (S := []) (by simp)
      have HH := Lib.hid (And.intro hO t1)
      clear hV t1 t2 t3 k0 k1 z0 z1 hO
      simp [bodyPost, results, Tryd.results18, go_sem, q0, q1]
      have hx : readF n bs i = .ok v (i + m) := by
        rcases HRD.out with ⟨c2, q2, h, h2⟩ | ⟨v, m, h, h2⟩
        · rw [hT] at h2; cases h2
        · rw [hT] at h2; cases h2; exact h
      have hl := lt_of_block HY.out.2.2
      refine ⟨HH.out.1.below, ?_⟩
      rw [hx]
      refine ⟨t, ?_, HT.out.1, HT.out.2.keep HH.out.2 (by intro b hb; simp at hb; omega) (by omega)⟩
      rw [HTA.out]
      simp [placeA]
  · have hx : readF n bs p = .bad 1 (-1) := by unfold readF; rw [if_pos (by left; assumption)]
    simp [bodyPost, results, Tryd.results18, go_sem, RdTo, hx, placeA]
    exact below2 _ _ _
end Go.Proofs.YtjfgmcmnpekahaaDoor
namespace Go.Proofs.YtjfgmcmnpekahaaDoor
open Go.RowKit
set_option maxRecDepth 100000

def placeN (_ : Nat) : Array Value := #[]
set_option maxHeartbeats 4000000 in
theorem Dec_any (a : Option Addr) (c : Nat) (bs : List Int) (n : Nat) (hD : DocAt n) (w : World) (hin : InB w a bs) (hc : bs.length ≤ c) (hfar : bs.length ≤ 140737488351232) (hby : isB bs) (hlow : ∀ b o, a = some ⟨b, o, none⟩ → 1 ≤ bs.length → b < w.heap.size) {B : Nat} (hE : Env2 w B) (hB : B ≤ w.heap.size) (hn : bs.length + 2 ≤ n) :
    Calls Tryd.prog 19 #[.slice a bs.length c] w (RdTo (decF n bs) placeN w) := by
  have HR := Lib.hid (fun (U : World) (hb : Below w.heap.size w U) => Rd_any a c bs 0 n hD U (hin.then_ hb) hc hfar hby (fun b o h1 h2 => by have := hlow b o h1 h2; have := hb.size; omega) (hE.then_ hb) (by have := hb.size; omega) hn)
  have HW := Lib.hid (fun (c' q : Int) (h : readF n bs 0 = .bad c' q) => show c' ≠ 0 by
    unfold readF at h
    rw [if_neg (by omega)] at h
    rcases hd : docF n false 1 (bs.drop (0 : Int).toNat) 0 with ⟨c2, q2⟩ | ⟨d, m⟩
    · rw [hd] at h
      have := (where_all n).1 false 1 _ 0 c2 q2 (by simpa using hby) (by simpa using hn) hd
      injection h with h1 h2
      omega
    · rw [hd] at h; cases h)
  clear hin hE hD hn hlow hby
  go_enter Tryd.func19, Tryd.ntmps19
  go_wp2_with fail
  · have hx : decF n bs = .bad 2 (-1) := by unfold decF; rw [if_pos (by omega)]
    simp [bodyPost, results, Tryd.results19, go_sem, RdTo, hx, placeN]
    exact below2 _ _ _
  · have b2 := below2 w (.cells #[.int .i64 0, .int .i64 0, .string ⟨#[]⟩, .slice none 0 0, .slice none 0 0] 25) (.cells #[.int .i64 0, .int .i64 0] 36)
    have y0 := heap_alloc2_old w (.cells #[.int .i64 0, .int .i64 0, .string ⟨#[]⟩, .slice none 0 0, .slice none 0 0] 25) (.cells #[.int .i64 0, .int .i64 0] 36)
    have y1 := heap_alloc_new (w.alloc (.cells #[.int .i64 0, .int .i64 0, .string ⟨#[]⟩, .slice none 0 0, .slice none 0 0] 25)) (.cells #[.int .i64 0, .int .i64 0] 36)
    rw [heap_size_alloc] at y1
    generalize (w.alloc (.cells #[.int .i64 0, .int .i64 0, .string ⟨#[]⟩, .slice none 0 0, .slice none 0 0] 25)).alloc (.cells #[.int .i64 0, .int .i64 0] 36) = U at b2 y0 y1 ⊢
    have HY := Lib.hid (And.intro y0 y1)
    have HB := Lib.hid b2
    clear b2 y0 y1
    refine (HR.out U HB.out).mono ?_
    rintro e w3 ⟨hb, hres⟩
    have x0 := row_then HY.out.1 hb
    have x1 := row_then HY.out.2 hb
    have k0 := row_cells x0
    have k1 := row_cells x1
    have z0 := rowf x0
    have z1 := rowf x1
    have HX := Lib.hid (And.intro x0 x1)
    have HBB := Lib.hid (HB.out.trans (hb.mono HB.out.size))
    clear hb x0 x1
    rcases hT : readF n bs 0 with ⟨c', q⟩ | ⟨v, m⟩
    · rw [hT] at hres
      dsimp only at hres
      obtain rfl := hres
      dsimp only [placeA]
      have hc0 := HW.out c' q hT
      go_wp2_with fail
      clear k0 k1 z0 z1
      have hb2 := below2 w3 (.cells #[.int .i64 0, .int .i64 0, .string ⟨#[]⟩, .slice none 0 0, .slice none 0 0] 25) (.cells #[.int .i64 c', .int .i64 q] 36)
      have y1 := heap_alloc_new (w3.alloc (.cells #[.int .i64 0, .int .i64 0, .string ⟨#[]⟩, .slice none 0 0, .slice none 0 0] 25)) (.cells #[.int .i64 c', .int .i64 q] 36)
      rw [heap_size_alloc] at y1
      generalize (w3.alloc (.cells #[.int .i64 0, .int .i64 0, .string ⟨#[]⟩, .slice none 0 0, .slice none 0 0] 25)).alloc (.cells #[.int .i64 c', .int .i64 q] 36) = Y at hb2 y1 ⊢
      have x0 := row_then HX.out.1 hb2
      have x1 := row_then HX.out.2 hb2
      have k0 := row_cells x0
      have k1 := row_cells x1
      have z0 := rowf x0
      have z1 := rowf x1
      have k3 := row_cells y1
      have l0 := lt_of_block HX.out.1
      have l1 := lt_of_block HX.out.2
      have e0 : w.heap.size ≠ w3.heap.size + 1 := by omega
      have e1 : w.heap.size + 1 ≠ w3.heap.size + 1 := by omega
      have HZ := Lib.hid (And.intro x0 (And.intro x1 (HBB.out.trans (hb2.mono HBB.out.size))))
      clear x0 x1 hb2 l0 l1 y1
      generalize w3.heap.size + 1 = H3 at k3 e0 e1
      go_region_law (fail)
      all_goals
        generalize hV : World.setCell _ _ _ = V
        obtain ⟨s0, s1, s2⟩ := HZ.out
        obtain ⟨t1, t2, t3⟩ := two_laid s0 s1 (by omega) hV.symm
        have q0 := row_cells (show V.drew.heap[w.heap.size]? = _ from t2)
        have q1 := row_cells (show V.drew.heap[w.heap.size + 1]? = _ from t3)
        have HV := Lib.hid (And.intro ((Only.of_below s2).then_ t1.drew (S := []) (by simp)) t1.drew)
        clear hV t1 t2 t3 k0 k1 k3 z0 z1 s0 s1 s2 e0 e1
        go_wp2_with fail
        simp [bodyPost, results, Tryd.results19, go_sem, q0, q1]
        refine ⟨HV.out.1.below, ?_⟩
        unfold decF
        rw [if_neg (by omega), hT]
        rfl
    · rw [hT] at hres
      obtain ⟨t, rfl, ht, hto⟩ := hres
      have HT := Lib.hid (And.intro ht hto)
      clear ht hto
      obtain ⟨kk, kn, ks, la, ll, lc, da, dl, dc, hta⟩ : ∃ (kk kn : Int) (ks : ByteArray) (la : Option Addr) (ll lc : Nat) (da : Option Addr) (dl dc : Nat), t.arg = .agg #[.int .i64 kk, .int .i64 kn, .string ks, .slice la ll lc, .slice da dl dc] := by
        cases t
        exact ⟨_, _, _, _, _, _, _, _, _, rfl⟩
      have HTA := Lib.hid hta
      rw [hta]
      clear hta
      dsimp only [placeA]
      have l0 := lt_of_block HX.out.1
      have l1 := lt_of_block HX.out.2
      have e0 : w.heap.size ≠ w3.heap.size := by omega
      have e1 : w.heap.size + 1 ≠ w3.heap.size := by omega
      have e2 : w.heap.size ≠ w3.heap.size + 1 := by omega
      have e3 : w.heap.size + 1 ≠ w3.heap.size + 1 := by omega
      go_wp2_with fail
      · generalize hV : World.setCell _ _ _ = V
        obtain ⟨t1, t2, t3⟩ := two_laid HX.out.1 HX.out.2 (by omega) hV.symm
        have hb2 := below2 V (.cells #[.int .i64 kk, .int .i64 kn, .string ks, .slice la ll lc, .slice da dl dc] 25) (.cells #[.int .i64 0, .int .i64 0] 36)
        generalize (V.alloc (.cells #[.int .i64 kk, .int .i64 kn, .string ks, .slice la ll lc, .slice da dl dc] 25)).alloc (.cells #[.int .i64 0, .int .i64 0] 36) = Y at hb2 ⊢
        have q0 := row_cells (row_then t2 hb2)
        have q1 := row_cells (row_then t3 hb2)
        have o1 : Only [w.heap.size, w.heap.size + 1] w3 Y := t1.trans (Only.of_below hb2)
        have HV := Lib.hid (And.intro ((Only.of_below HBB.out).then_ o1 (S := []) (by simp)) o1)
        clear hV t1 t2 t3 hb2 o1 k0 k1 z0 z1 l0 l1 e0 e1 e2 e3
        simp [bodyPost, results, Tryd.results19, go_sem, q0, q1]
        refine ⟨HV.out.1.below, ?_⟩
        unfold decF
        rw [if_neg (by omega), hT]
        dsimp only
        rw [if_pos (by assumption)]
        rfl
      · generalize hV : World.setCell _ _ _ = V
        obtain ⟨t1, t2, t3⟩ := two_laid HX.out.1 HX.out.2 (by omega) hV.symm
        have hb2 := below2 V (.cells #[.int .i64 kk, .int .i64 kn, .string ks, .slice la ll lc, .slice da dl dc] 25) (.cells #[.int .i64 0, .int .i64 0] 36)
        generalize (V.alloc (.cells #[.int .i64 kk, .int .i64 kn, .string ks, .slice la ll lc, .slice da dl dc] 25)).alloc (.cells #[.int .i64 0, .int .i64 0] 36) = Y at hb2 ⊢
        have q0 := row_cells (row_then t2 hb2)
        have q1 := row_cells (row_then t3 hb2)
        have o1 : Only [w.heap.size, w.heap.size + 1] w3 Y := t1.trans (Only.of_below hb2)
        have HV := Lib.hid (And.intro ((Only.of_below HBB.out).then_ o1 (S := []) (by simp)) o1)
        clear hV t1 t2 t3 hb2 o1 k0 k1 z0 z1 l0 l1 e0 e1 e2 e3
        simp [bodyPost, results, Tryd.results19, go_sem, q0, q1]
        refine ⟨HV.out.1.below, ?_⟩
        unfold decF
        rw [if_neg (by omega), hT]
        dsimp only
        rw [if_neg (by assumption)]
        have hl := lt_of_block HY.out.2
        refine ⟨t, ?_, HT.out.1, HT.out.2.keep HV.out.2 (by intro b hb; simp at hb; omega) (by omega)⟩
        rw [HTA.out]
        simp [placeN]
end Go.Proofs.YtjfgmcmnpekahaaDoor
