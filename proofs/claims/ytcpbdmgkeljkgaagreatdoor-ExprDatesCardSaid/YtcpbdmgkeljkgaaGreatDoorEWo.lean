/- Eval, Work. No statement is proved here. -/
import Derived.Test.YtcpbdmgkeljkgaaGreatDoorEPa
import Derived.Test.YtcpbdmgkeljkgaaGreatDoorECa
namespace Go.Proofs.YtcpbdmgkeljkgaaGreatDoor
open Go.RowKit
set_option maxRecDepth 100000

/-- What a call owns lies in blocks of its own. -/
theorem own_places {w : World} {B : Nat} (t : T) : Owns w B t.rows → ∀ p ∈ t.places, B ≤ p.1.block := by
  induction t using T.ind with
  | h k n s la lc l da dc d ihl ihd =>
  intro h p hp
  have hrow : ∀ r ∈ T.rows (.mk k n s la lc l da dc d), w.ownsRow B r.e r.size r.v r.n r.xs := h
  simp only [T.rows, T.rowsL_eq, T.rowsD_eq] at hrow
  have at_blk : ∀ (g i : Nat), (at_ (some ⟨g, 0, none⟩) i).block = g := fun g i => rfl
  simp only [T.places, List.mem_append] at hp
  rcases hp with hp | hp
  · obtain ⟨i, x, hx, hp⟩ := (T.mem_placesL _ _ _ _).1 hp
    rcases hp with hp | hp
    · obtain ⟨j, c, hc, rfl⟩ := mem_laid.1 hp
      have hr := hrow _ (List.mem_cons_self ..)
      simp only at hr
      have hil := lt_of_get hx
      obtain ⟨h1, h2⟩ := hr
      rcases h2 with ⟨hv, h2⟩ | ⟨g, cap, cur, hv, hb, hg', hrest⟩
      · exfalso; omega
      · injection hv with hv
        subst hv
        exact hb
    · exact ihl x (List.mem_of_getElem? hx) (fun r hr => hrow r (by simp only [List.mem_cons, List.mem_append, List.mem_flatMap]; exact .inr (.inr (.inl ⟨x, List.mem_of_getElem? hx, hr⟩)))) p hp
  · obtain ⟨i, x, hx, hp⟩ := (T.mem_placesD _ _ _ _).1 hp
    rcases hp with hp | hp
    · obtain ⟨j, c, hc, rfl⟩ := mem_laid.1 hp
      have hr := hrow _ (List.mem_cons_of_mem _ (List.mem_cons_self ..))
      simp only at hr
      have hil := lt_of_get hx
      obtain ⟨h1, h2⟩ := hr
      rcases h2 with ⟨hv, h2⟩ | ⟨g, cap, cur, hv, hb, hg', hrest⟩
      · exfalso; omega
      · injection hv with hv
        subst hv
        exact hb
    · exact ihd x (List.mem_of_getElem? hx) (fun r hr => hrow r (by simp only [List.mem_cons, List.mem_append, List.mem_flatMap]; exact .inr (.inr (.inr ⟨x, List.mem_of_getElem? hx, hr⟩)))) p hp
/-- What a value was worked out to: one like a value that R says; or an error, and the value of no kind. -/
def WorkTo (R : T → Prop) (err : Int) (w : World) (e : Ending) (w' : World) : Prop :=
  Below w.heap.size w w' ∧ ((err = 0 ∧ ∃ r r' : T, e = .returned (.tuple #[r'.arg, .int .i64 0]) ∧ R r ∧ r'.val = r.val ∧ r'.tidy ∧ r'.ok ∧ r'.In w' ∧ ∀ p ∈ r'.places, w.heap.size ≤ p.1.block) ∨ (err ≠ 0 ∧ e = .returned (.tuple #[voidT.arg, .int .i64 err])))
set_option maxHeartbeats 4000000 in
theorem Eval_any {d : T} (hd : d.ok) {k : Nat} {R : T → Prop} {err : Int} (hk : k + 1 ≤ 20000) (w : World) (g : Nat) (u : TypeId) (x : Value) (hg : w.heap[g]? = some (.cells #[.iface u x] 53 (0, 0))) (hE : Ev w d u x k R err) (hin : d.In w) :
    Calls Tryz.prog 14 #[.pointer (some ⟨g, 0, none⟩), d.arg] w (WorkTo R err w) := by
  have hgs := lt_of_block hg
  have HIN := Lib.hid hin
  have HG := Lib.hid hg
  have HD := Lib.hid hE
  obtain ⟨dk, dn, ds, dla, dlc, dl, dda, ddc, df⟩ := d
  show Calls _ _ #[_, .agg #[.int .i64 dk, .int .i64 dn, .string ds, .slice dla dl.length dlc, .slice dda df.length ddc]] _ _
  obtain ⟨U, hU⟩ : ∃ U, (((w.alloc (.cells #[.int .i64 dk, .int .i64 dn, .string ds, .slice dla dl.length dlc, .slice dda df.length ddc] 28)).alloc (.cells #[.int .i64 0, .int .i64 0, .string ⟨#[]⟩, .slice none 0 0, .slice none 0 0] 28)).alloc (.cells #[.int .i64 dk, .int .i64 dn, .string ds, .slice dla dl.length dlc, .slice dda df.length ddc] 28)).alloc (.cells #[.slice (some ⟨w.heap.size + 1 + 1, 0, none⟩) 1 1, .int .i64 0] 56) = U := ⟨_, rfl⟩
  have bU : Below w.heap.size w U := by rw [← hU]; exact (below3 _ _ _ _).alloc (by simp; omega) _
  have r1 : U.heap[w.heap.size + 1]? = some (box 0 0) := by
    rw [← hU]
    have h1 := row_then (heap_alloc_new (w.alloc (.cells #[.int .i64 dk, .int .i64 dn, .string ds, .slice dla dl.length dlc, .slice dda df.length ddc] 28)) (box 0 0)) (below2 _ (.cells #[.int .i64 dk, .int .i64 dn, .string ds, .slice dla dl.length dlc, .slice dda df.length ddc] 28) (.cells #[.slice (some ⟨w.heap.size + 1 + 1, 0, none⟩) 1 1, .int .i64 0] 56))
    rw [World.size_alloc] at h1
    exact h1
  have r2 : U.heap[w.heap.size + 1 + 1]? = some (.cells #[.int .i64 dk, .int .i64 dn, .string ds, .slice dla dl.length dlc, .slice dda df.length ddc] 28 (0, 0)) := by
    rw [← hU]
    have h1 := row_then (heap_alloc_new ((w.alloc (.cells #[.int .i64 dk, .int .i64 dn, .string ds, .slice dla dl.length dlc, .slice dda df.length ddc] 28)).alloc (box 0 0)) (.cells #[.int .i64 dk, .int .i64 dn, .string ds, .slice dla dl.length dlc, .slice dda df.length ddc] 28)) (below1 _ (.cells #[.slice (some ⟨w.heap.size + 1 + 1, 0, none⟩) 1 1, .int .i64 0] 56))
    rw [World.size_alloc, World.size_alloc] at h1
    exact h1
  have r3 : U.heap[w.heap.size + 1 + 1 + 1]? = some (wkRow (w.heap.size + 1 + 1) 0) := by
    rw [← hU]
    have h1 := heap_alloc_new (((w.alloc (.cells #[.int .i64 dk, .int .i64 dn, .string ds, .slice dla dl.length dlc, .slice dda df.length ddc] 28)).alloc (box 0 0)).alloc (.cells #[.int .i64 dk, .int .i64 dn, .string ds, .slice dla dl.length dlc, .slice dda df.length ddc] 28)) (wkRow (w.heap.size + 1 + 1) 0)
    rw [World.size_alloc, World.size_alloc, World.size_alloc] at h1
    exact h1
  have hzU : U.heap.size = w.heap.size + 4 := by rw [← hU]; simp
  have hlt : ∀ p ∈ (T.mk dk dn ds dla dlc dl dda ddc df).places, p.1.block < w.heap.size := fun p hp => World.block_lt_of_cell? w p.1 (hin p hp)
  have kU : WkAt U (w.heap.size + 1 + 1 + 1) (w.heap.size + 1 + 1) (T.mk dk dn ds dla dlc dl dda ddc df) 0 := ⟨r3, by omega, r2, hin.then_ bU, fun p hp => by have := hlt p hp; omega⟩
  have HEV := Lib.hid (eval_any hE U _ _ 0 bU (by omega) kU (by omega))
  have c0 : U.cell? ⟨g, 0, none⟩ = some (.iface u x) := row_cells (row_then hg bU) 0
  rw [← hU] at c0
  have HU := Lib.hid (And.intro hU (And.intro bU (And.intro r1 (And.intro hzU hlt))))
  clear hin hg hE hU bU r1 r2 r3 hzU hlt kU
  go_enter Tryz.func14, Tryz.ntmps14
  go_wp2_with fail
  rw [HU.out.1]
  refine HEV.out.mono ?_
  rintro e w1 ⟨⟨rk, rm, rs, rla, rlc, rl, rda, rdc, rf⟩, rfl, hv, hok, hin1, hout, ho, hrow⟩
  have hz1 := ho.size
  have hUz := HU.out.2.2.2.1
  have X1 := keep_row ho HU.out.2.2.1 (by simp)
  have HX := Lib.hid (And.intro X1 (And.intro hv (And.intro hok (And.intro hin1 (And.intro ho (below_then HU.out.2.1 (Below.refl _ U)))))))
  dsimp only [T.arg, T.cells]
  clear hv hok hin1 hout ho hrow X1 c0
  by_cases he : err = 0
  · subst he
    have HC := Lib.hid (fun (ob : Obj) => cloneY_any _ HX.out.2.2.1 (w1.alloc ob) (HX.out.2.2.2.1.then_ (below1 _ _)))
    dsimp only [T.arg, T.cells] at HC
    go_wp2_with fail
    refine (HC.out _).mono ?_
    rintro e w2 ⟨⟨rk', rm', rs', rla', rlc', rl', rda', rdc', rf'⟩, rfl, ⟨hv', htd⟩, hown, b2⟩
    have bX := below_then (below1 w1 _) b2
    have X2 := row_then HX.out.1 bX
    have cX := row_cells X2
    have fX := rowf X2
    unfold box at cX
    have HY := Lib.hid (And.intro X2 (And.intro bX (And.intro hv' (And.intro htd hown))))
    dsimp only [T.arg, T.cells]
    clear X2 bX b2 hv' htd hown
    go_wp2_with fail
    generalize hV : World.setCell _ _ _ = V'
    obtain ⟨t1, t2⟩ := put5V HY.out.1 hV
    have q := row_cells t2
    have hz2 := HY.out.2.1.size
    have hin' : T.In V' (T.mk rk' rm' rs' rla' rlc' rl' rda' rdc' rf') := owns_in _ (HY.out.2.2.2.2.owns.only t1 (fun b hb => by have := (owns_lt HY.out.2.2.2.2.owns b hb).1; simp at this ⊢; omega))
    have hbel : Below w.heap.size w V' := ((((Only.of_below (S := []) HU.out.2.1).then_ HX.out.2.2.2.2.1 (fun i hi => .inr (by simp at hi; omega))).trans (Only.of_below HY.out.2.1)).then_ t1 (fun i hi => .inr (by simp at hi; omega))).below
    have hres : WorkTo R 0 w (.returned (.tuple #[T.arg (.mk rk' rm' rs' rla' rlc' rl' rda' rdc' rf'), .int .i64 0])) V' := ⟨hbel, .inl ⟨rfl, _, _, rfl, HX.out.2.1, HY.out.2.2.1, HY.out.2.2.2.1, HY.out.2.2.2.2.ok, hin', fun p hp => by have := own_places _ HY.out.2.2.2.2.owns p hp; simp at this; omega⟩⟩
    have HRR := Lib.hid hres
    clear hV t1 t2 cX fX hin' hbel hres
    simp [bodyPost, results, Tryz.results14, go_sem, q]
    exact HRR.out
  · have heb : (err == 0) = false := by simpa using he
    have X2 := row_then HX.out.1 (below1 w1 (.cells #[.int .i64 rk, .int .i64 rm, .string rs, .slice rla rl.length rlc, .slice rda rf.length rdc] 28))
    have cX := row_cells X2
    have fX := rowf X2
    have HY := Lib.hid X2
    unfold box at cX
    clear X2
    go_wp2_with fail
    generalize hV : World.setCell _ _ _ = V'
    obtain ⟨t1, t2⟩ := put5V HY.out hV
    have q := row_cells t2
    have hbel : Below w.heap.size w V' := ((((Only.of_below (S := []) HU.out.2.1).then_ HX.out.2.2.2.2.1 (fun i hi => .inr (by simp at hi; omega))).trans (Only.of_below (below1 _ _))).then_ t1 (fun i hi => .inr (by simp at hi; omega))).below
    have HRR := Lib.hid (show WorkTo R err w (.returned (.tuple #[voidT.arg, .int .i64 err])) V' from ⟨hbel, .inr ⟨he, rfl⟩⟩)
    clear hV t1 t2 cX fX hbel
    simp [bodyPost, results, Tryz.results14, go_sem, q]
    exact HRR.out
set_option maxHeartbeats 4000000 in
/-- An expression, parsed and worked out. -/
theorem Work_any {d t : T} (hd : d.ok) (ok : t.ok) (hr : rightOf t.val = 0) {k : Nat} {R : T → Prop} {err : Int} (hk : k + 1 ≤ 20000) (H : ∀ t' : T, t'.val = t.val → t'.tidy → t'.ok → Reads d t' k R err) (w : World) (hin : t.In w) (hind : d.In w) (henv : EnvR w) :
    Calls Tryz.prog 7 #[t.arg, d.arg] w (WorkTo R err w) := by
  have HP := Lib.hid (fun (W : World) (hb : Below w.heap.size w W) => parse_any d t ok hr H W (hin.then_ hb) (henv.then_ hb))
  have HE := Lib.hid (fun (W : World) (hb : Below w.heap.size w W) g u x hg hE => Eval_any (R := R) (err := err) hd hk W g u x hg hE (hind.then_ hb))
  obtain ⟨tk, tn, ts, tla, tlc, tl, tda, tdc, tf⟩ := t
  obtain ⟨dk, dn, ds, dla, dlc, dl, dda, ddc, df⟩ := d
  dsimp only [T.arg, T.cells] at HP HE ⊢
  obtain ⟨U, hU⟩ : ∃ U, ((w.alloc (.cells #[.int .i64 tk, .int .i64 tn, .string ts, .slice tla tl.length tlc, .slice tda tf.length tdc] 28)).alloc (.cells #[.int .i64 dk, .int .i64 dn, .string ds, .slice dla dl.length dlc, .slice dda df.length ddc] 28)).alloc (.cells #[.int .i64 0, .int .i64 0, .string ⟨#[]⟩, .slice none 0 0, .slice none 0 0] 28) = U := ⟨_, rfl⟩
  have bU : Below w.heap.size w U := by rw [← hU]; exact below3 _ _ _ _
  have r1 : U.heap[w.heap.size + 1]? = some (.cells #[.int .i64 dk, .int .i64 dn, .string ds, .slice dla dl.length dlc, .slice dda df.length ddc] 28 (0, 0)) := by
    rw [← hU]
    have h1 := row_then (heap_alloc_new (w.alloc (.cells #[.int .i64 tk, .int .i64 tn, .string ts, .slice tla tl.length tlc, .slice tda tf.length tdc] 28)) (.cells #[.int .i64 dk, .int .i64 dn, .string ds, .slice dla dl.length dlc, .slice dda df.length ddc] 28)) (below1 _ (box 0 0))
    rw [World.size_alloc] at h1
    exact h1
  have r2 : U.heap[w.heap.size + 1 + 1]? = some (box 0 0) := by
    rw [← hU]
    have h1 := heap_alloc_new ((w.alloc (.cells #[.int .i64 tk, .int .i64 tn, .string ts, .slice tla tl.length tlc, .slice tda tf.length tdc] 28)).alloc (.cells #[.int .i64 dk, .int .i64 dn, .string ds, .slice dla dl.length dlc, .slice dda df.length ddc] 28)) (box 0 0)
    rw [World.size_alloc, World.size_alloc] at h1
    exact h1
  have HU := Lib.hid (And.intro hU (And.intro bU (And.intro r1 r2)))
  have HPU := Lib.hid (HP.out U bU)
  clear H henv hin hind ok hr hd hU bU r1 r2 HP
  go_enter Tryz.func7, Tryz.ntmps7
  go_wp2_with fail
  rw [HU.out.1]
  refine HPU.out.mono ?_
  rintro e w1 ⟨b1, g, u, x, rfl, hg, hE⟩
  have HEV := Lib.hid (HE.out w1 (below_then HU.out.2.1 b1) g u x hg hE)
  have X1 := row_then HU.out.2.2.1 b1
  have c1 := row_cells X1
  have HX := Lib.hid (And.intro (row_then HU.out.2.2.2 b1) (below_then HU.out.2.1 b1))
  clear X1 b1 hg hE HE
  go_wp2_with fail
  refine HEV.out.mono ?_
  rintro e w2 ⟨b2, ⟨he, r, ⟨rk, rm, rs, rla, rlc, rl, rda, rdc, rf⟩, rfl, hR, hv, htd, hok, hin, hpl⟩ | ⟨he, rfl⟩⟩
  · have X2 := row_then HX.out.1 b2
    have cX := row_cells X2
    have fX := rowf X2
    unfold box at cX
    have HY := Lib.hid (And.intro X2 (And.intro (below_then HX.out.2 b2) (And.intro he (And.intro hR (And.intro hv (And.intro htd (And.intro hok (And.intro hin hpl))))))))
    dsimp only [T.arg, T.cells]
    clear X2 b2 he hR hv htd hok hin hpl c1
    go_wp2_with fail
    generalize hV : World.setCell _ _ _ = V'
    obtain ⟨t1, t2⟩ := put5V HY.out.1 hV
    have q := row_cells t2
    obtain ⟨-, b2, rfl, hR, hv, htd, hok, hin, hpl⟩ := HY.out
    have hw1 := HX.out.2.size
    have hU3 := lt_of_block HX.out.1
    have hbel : Below w.heap.size w V' := ((Only.of_below (S := []) b2).then_ t1 (fun i hi => .inr (by simp at hi; omega))).below
    have HRR := Lib.hid (show WorkTo R 0 w (.returned (.tuple #[T.arg (.mk rk rm rs rla rlc rl rda rdc rf), .int .i64 0])) V' from ⟨hbel, .inl ⟨rfl, _, _, rfl, hR, hv, htd, hok, hin.onlyG t1 (fun p hp => by have := hpl p hp; omega), fun p hp => by have := hpl p hp; omega⟩⟩)
    clear hV t1 t2 cX fX b2 hR hv htd hok hin hpl hbel HY
    simp [bodyPost, results, Tryz.results7, go_sem, q]
    exact HRR.out
  · have X2 := row_then HX.out.1 b2
    have cX := row_cells X2
    have fX := rowf X2
    unfold box at cX
    have HY := Lib.hid (And.intro X2 (And.intro (below_then HX.out.2 b2) he))
    rw [show voidT.arg = .agg #[.int .i64 0, .int .i64 0, .string ⟨#[]⟩, .slice none 0 0, .slice none 0 0] from rfl]
    clear X2 b2 he c1
    go_wp2_with fail
    generalize hV : World.setCell _ _ _ = V'
    obtain ⟨t1, t2⟩ := put5V HY.out.1 hV
    have q := row_cells t2
    have hbel : Below w.heap.size w V' := ((Only.of_below (S := []) HY.out.2.1).then_ t1 (fun i hi => .inr (by simp at hi; omega))).below
    have HRR := Lib.hid (show WorkTo R err w (.returned (.tuple #[voidT.arg, .int .i64 err])) V' from ⟨hbel, .inr ⟨HY.out.2.2, rfl⟩⟩)
    clear hV t1 t2 cX fX hbel
    simp [bodyPost, results, Tryz.results7, go_sem, q]
    exact HRR.out
end Go.Proofs.YtcpbdmgkeljkgaaGreatDoor
