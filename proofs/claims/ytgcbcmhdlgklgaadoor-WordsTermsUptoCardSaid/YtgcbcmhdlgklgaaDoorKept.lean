/- The contract of Kept: no statement is proved here. -/
import Derived.Test.YtgcbcmhdlgklgaaDoorKeptP
import Derived.Test.YtgcbcmhdlgklgaaDoorWTerms
namespace Go.Proofs.YtgcbcmhdlgklgaaDoor
open Go.RowKit
set_option maxRecDepth 100000

def KeptAt (a : T) : Prop := ∀ (b : T) (B : Nat) (w : World), a.Marked w B → b.ok → b.In w → (∀ p ∈ b.places, p.1.block ∉ blocksOf a.mrows) → a.val = b.val →
  Calls Tryd.prog 12 #[a.arg, b.arg] w fun e w' => e = .returned (.bool true) ∧ Only (blocksOf a.mrows) w w'
theorem placesL_sub {a : Option Addr} {l : List T} {i : Nat} {x : T} (h : l[i]? = some x) : ∀ p ∈ x.places, p ∈ T.placesL a 0 l := fun p hp => (T.mem_placesL a l p 0).2 ⟨i, x, h, .inr hp⟩
theorem placesD_sub {a : Option Addr} {l : List (ByteArray × T)} {i : Nat} {x : ByteArray × T} (h : l[i]? = some x) : ∀ p ∈ x.2.places, p ∈ T.placesD a 0 l := fun p hp => (T.mem_placesD a l p 0).2 ⟨i, x, h, .inr hp⟩
theorem map_at {α β γ : Type} {f : α → γ} {g : β → γ} {l : List α} {l' : List β} (h : l.map f = l'.map g) {i : Nat} {x : α} {y : β} (hx : l[i]? = some x) (hy : l'[i]? = some y) : f x = g y := by
  have := congrArg (·[i]?) h
  simpa [hx, hy] using this
theorem InL.only {w wr : World} {S : List Nat} {a : Option Addr} {l : List T} (h : InL w a l) (ho : Only S w wr) (hs : ∀ p ∈ T.placesL a 0 l, p.1.block ∉ S) : InL wr a l := fun p hp =>
  (World.cell?_of_block (ho.block _ (cell_lt (h p hp)) (hs p hp))).trans (h p hp)
theorem InD.only {w wr : World} {S : List Nat} {a : Option Addr} {l : List (ByteArray × T)} (h : InD w a l) (ho : Only S w wr) (hs : ∀ p ∈ T.placesD a 0 l, p.1.block ∉ S) : InD wr a l := fun p hp =>
  (World.cell?_of_block (ho.block _ (cell_lt (h p hp)) (hs p hp))).trans (h p hp)
theorem Only.drewN {S : List Nat} {a b : World} (h : Only S a b) (n : Nat) : Only S a (b.drewN n) := ⟨h.os, h.tape, h.output, h.size, h.block⟩
theorem Only.undrew {S : List Nat} {a b : World} (h : Only S a.drew b) : Only S a b := ⟨h.os, h.tape, h.output, h.size, h.block⟩

set_option maxHeartbeats 4000000 in
theorem kept_any (a : T) : KeptAt a := by
  induction a using T.ind with
  | h kx nx sx lax lcx lx dax dcx dx ihl ihd =>
  intro b B w hm okb hb hap hv
  obtain ⟨ky, ny, sy, lay, lcy, ly, day, dcy, dy⟩ := b
  rw [T.val_mk, T.val_mk] at hv
  injection hv with e1 e2 e3 vl vd
  subst e1 e2 e3
  have hl : ly.length = lx.length := by simpa using (congrArg List.length vl).symm
  have hd : dy.length = dx.length := by simpa using (congrArg List.length vd).symm
  show Calls _ _ #[.agg #[.int .i64 kx, .int .i64 nx, .string sx, .slice lax lx.length lcx, .slice dax dx.length dcx], .agg #[.int .i64 kx, .int .i64 nx, .string sx, .slice lay ly.length lcy, .slice day dy.length dcy]] _ _
  rw [hl, hd]
  obtain ⟨-, -, -, -, -, ol1, ol2, od1, od2, -, -⟩ := hm.ok.parts
  obtain ⟨-, -, -, -, -, -, -, -, -, pl3, pd3⟩ := okb.parts
  have howns := hm.owns
  simp only [T.mrows] at howns
  have o1 : w.ownsRow B 30 5 (.slice lax (lx.length + 1) lcx) (lx.length + 1) (lx.flatMap T.cells ++ markV) := howns.head
  have o2 : w.ownsRow B 54 6 (.slice dax (dx.length + 1) dcx) (dx.length + 1) (dx.flatMap fcells ++ markD) := howns.tail.head
  obtain ⟨g1, rfl, c1, L1, M1⟩ := own_live o1
  obtain ⟨g2, rfl, c2, L2, M2⟩ := own_live o2
  obtain ⟨K, kidL, kidD⟩ := marked_kids hm
  have hS := fun b hb => (owns_lt hm.owns b hb).2
  have vm1 : w.cell? ⟨g1, lx.length * 5, none⟩ = some (.int .i64 (-7)) := by
    rw [M1 _ (by omega), List.getElem?_append_right (by rw [flat_len]; omega), flat_len, Nat.sub_self]; rfl
  have vm2 : w.cell? ⟨g2, dx.length * 6, none⟩ = some (.string markText) := by
    rw [M2 _ (by omega), List.getElem?_append_right (by rw [fflat_len]; omega), fflat_len, Nat.sub_self]; rfl
  have m1 : ∀ X Y, ((w.alloc X).alloc Y).cell? ⟨g1, lx.length * 5, none⟩ = some (.int .i64 (-7)) := fun X Y => ((below2 w X Y).cell (cell_lt vm1)).trans vm1
  have m2 : ∀ X Y, ((w.alloc X).alloc Y).cell? ⟨g2, dx.length * 6, none⟩ = some (.string markText) := fun X Y => ((below2 w X Y).cell (cell_lt vm2)).trans vm2
  have s2 : (!(sx.toList == sx.toList)) = false := by simp
  have hS1 := hS _ K.in1
  have hS2 := hS _ K.in2
  generalize blocksOf (T.mrows (T.mk kx nx sx (some ⟨g1, 0, none⟩) lcx lx (some ⟨g2, 0, none⟩) dcx dx)) = S at hap K hS hS1 hS2 ⊢
  obtain ⟨hb1, hb2⟩ := hb.parts
  have ap1 : ∀ p ∈ T.placesL lay 0 ly, p.1.block ∉ S := fun p hp => hap p (by simp [T.places, hp])
  have ap2 : ∀ p ∈ T.placesD day 0 dy, p.1.block ∉ S := fun p hp => hap p (by simp [T.places, hp])
  have KK := Lib.hid K
  have LL := Lib.hid (And.intro L1 L2)
  have MM := Lib.hid (And.intro M1 M2)
  have KIDS := Lib.hid (And.intro kidL kidD)
  have HB := Lib.hid (And.intro hb1 hb2)
  have AP := Lib.hid (And.intro ap1 ap2)
  have VS := Lib.hid (And.intro vl vd)
  have HS := Lib.hid hS
  have PL := Lib.hid (And.intro pl3 pd3)
  have HL := Lib.hid (And.intro hl hd)
  have tm : (markText.toList == [109, 97, 114, 107]) = true := by simp [markText, Lib.toList_data]
  clear hm okb hb hap howns o1 o2 K L1 L2 M1 M2 kidL kidD hS vm1 vm2 hb1 hb2 ap1 ap2 vl vd pl3 pd3 hl hd
  go_enter Tryd.func12, Tryd.ntmps12
  go_wp2_with fail
  go_loopw [7, 8, 9] (fun ok i _ wr => ∃ k : Nat, k ≤ lx.length ∧ ok = .bool true ∧ i = .int .i64 k ∧ KeptRel w wr B S g1 g2 lx dx [.int .i64 kx, .int .i64 nx, .string sx, .slice (some ⟨g1, 0, none⟩) lx.length lcx, .slice (some ⟨g2, 0, none⟩) dx.length dcx] [.int .i64 kx, .int .i64 nx, .string sx, .slice lay lx.length lcy, .slice day dx.length dcy] k 0) (fun _ i _ _ => lx.length - (intOf i).toNat)
  case atStart =>
    have bel := Only.of_below (S := S) (below2 w (.cells #[.int .i64 kx, .int .i64 nx, .string sx, .slice (some ⟨g1, 0, none⟩) lx.length lcx, .slice (some ⟨g2, 0, none⟩) dx.length dcx] 30) (.cells #[.int .i64 kx, .int .i64 nx, .string sx, .slice lay lx.length lcy, .slice day dx.length dcy] 30))
    have bel2 : Below w.heap.size w _ := below2 w (.cells #[.int .i64 kx, .int .i64 nx, .string sx, .slice (some ⟨g1, 0, none⟩) lx.length lcx, .slice (some ⟨g2, 0, none⟩) dx.length dcx] 30) (.cells #[.int .i64 kx, .int .i64 nx, .string sx, .slice lay lx.length lcy, .slice day dx.length dcy] 30)
    have bel0 : Only [] w _ := Only.of_below bel2
    refine ⟨0, by omega, rfl, rfl, bel, ?_, ?_, fun i x _ hx => ?_, fun i x _ hx => ?_, heap_alloc2_old _ _ _, heap_alloc2_new _ _ _⟩
    · have := LL.out.1.only bel0 (by simp); simpa using this
    · have := LL.out.2.only bel0 (by simp); simpa using this
    · exact (KIDS.out.1 x (List.mem_of_getElem? hx)).below bel2
    · exact (KIDS.out.2 x (List.mem_of_getElem? hx)).below bel2
  case round =>
    clear m1 m2 tm
    obtain ⟨k, hk, rfl, rfl, R⟩ := hrel
    have HR := Lib.hid R
    have ka : ∀ o, wr.cell? ⟨w.heap.size, o, none⟩ = (#[.int .i64 kx, .int .i64 nx, .string sx, .slice (some ⟨g1, 0, none⟩) lx.length lcx, .slice (some ⟨g2, 0, none⟩) dx.length dcx] : Array Value)[o]? := row_cells R.box1
    have kb : ∀ o, wr.cell? ⟨w.heap.size + 1, o, none⟩ = (#[.int .i64 kx, .int .i64 nx, .string sx, .slice lay lx.length lcy, .slice day dx.length dcy] : Array Value)[o]? := row_cells R.box2
    clear R
    by_cases h1 : k < lx.length
    · obtain ⟨b, o, ky, ny, sy, la2, lc2, l2, da2, dc2, d2, rfl, hy, hiy, y0, y1, y2, y3, y4⟩ := (HB.out.1.only HR.out.only AP.out.1).five (i := k) (by have := HL.out.1; omega)
      obtain ⟨⟨k1, n1, s1, la1, lc1, l1, da1, dc1, d1⟩, hx⟩ : ∃ x, lx[k]? = some x := ⟨_, List.getElem?_eq_getElem h1⟩
      obtain ⟨x0, x1, x2, x3, x4⟩ := live_five HR.out.row1 MM.out.1 hx
      have hmx := HR.out.kidL k _ (Nat.le_refl _) hx
      have hxm := List.mem_of_getElem? hx
      have H := Lib.hid (ihl _ hxm _ B wr.drew (HR.out.drew.kidL k _ (Nat.le_refl _) hx) (PL.out.1 _ (List.mem_of_getElem? hy)) hiy (fun p hp hc => AP.out.1 p (placesL_sub hy p hp) (KK.out.inL _ hxm _ hc).1) (map_at VS.out.1 hx hy))
      have HX := Lib.hid hx
      have HG := Lib.hid (show g1 ∉ blocksOf (T.mrows (.mk k1 n1 s1 la1 lc1 l1 da1 dc1 d1)) from fun h => (KK.out.inL _ hxm _ h).2.1 rfl)
      clear hx hy hiy hmx hxm
      have i0 : (0 : Int) ≤ (k : Int) := by omega
      have i1 : (k : Int) < ((lx.length + 1 : Nat) : Int) := by omega
      have i2 : (k : Int) < (lx.length : Int) + 1 := by omega
      go_wp2_with fail
      go_still_tail 9, (by kernel_rfl)
      change wpList _ _ _ _ _ wr.drew
      go_wp2_with (go_at_call 12; refine H.out.mono ?_; rintro e w1 ⟨rfl, ho1⟩; have ho := ho1.undrew; clear ho1; obtain ⟨v0, v1, v2, v3, v4, q0, q1, q2, q3, q4, f0, f1, f2, f3, f4⟩ := (HR.out.row1.only ho HG.out).room5 (i := k) (by omega))
      have HS2 := kept_stepL HR.out KK.out HS.out HX.out ho [.int .i64 (-9), .int .i64 0, .string ⟨#[]⟩, .slice none 0 0, .slice none 0 0] rfl
      rw [put5] at HS2
      go_roundw
      case rel => exact ⟨k + 1, by omega, rfl, by go_num, HS2⟩
      case measure => simp [intOf]; omega
    · have hkl : k = lx.length := by omega
      subst hkl
      go_wp2_with fail
      obtain ⟨wo, rfl⟩ : ∃ wo : World, wo = wr := ⟨_, rfl⟩
      go_loopw [7, 10, 11] (fun ok i _ wr => ∃ j : Nat, j ≤ dx.length ∧ ok = .bool true ∧ i = .int .i64 j ∧ KeptRel w wr B S g1 g2 lx dx [.int .i64 kx, .int .i64 nx, .string sx, .slice (some ⟨g1, 0, none⟩) lx.length lcx, .slice (some ⟨g2, 0, none⟩) dx.length dcx] [.int .i64 kx, .int .i64 nx, .string sx, .slice lay lx.length lcy, .slice day dx.length dcy] lx.length j) (fun _ i _ _ => dx.length - (intOf i).toNat)
      case atStart => exact ⟨0, by omega, rfl, rfl, HR.out⟩
      case round =>
        clear HR ka kb
        obtain ⟨j, hj, rfl, rfl, R⟩ := hrel
        have HR := Lib.hid R
        have ka : ∀ o, wr.cell? ⟨w.heap.size, o, none⟩ = (#[.int .i64 kx, .int .i64 nx, .string sx, .slice (some ⟨g1, 0, none⟩) lx.length lcx, .slice (some ⟨g2, 0, none⟩) dx.length dcx] : Array Value)[o]? := row_cells R.box1
        have kb : ∀ o, wr.cell? ⟨w.heap.size + 1, o, none⟩ = (#[.int .i64 kx, .int .i64 nx, .string sx, .slice lay lx.length lcy, .slice day dx.length dcy] : Array Value)[o]? := row_cells R.box2
        clear R
        by_cases h1 : j < dx.length
        · obtain ⟨b, o, f2, ky, ny, sy, la2, lc2, l2, da2, dc2, d2, rfl, hy, hiy, y0, y1, y2, y3, y4, y5⟩ := (HB.out.2.only HR.out.only AP.out.2).six (i := j) (by have := HL.out.2; omega)
          obtain ⟨⟨f1, k1, n1, s1, la1, lc1, l1, da1, dc1, d1⟩, hx⟩ : ∃ x, dx[j]? = some x := ⟨_, List.getElem?_eq_getElem h1⟩
          obtain ⟨x0, x1, x2, x3, x4, x5⟩ := live_six HR.out.row2 MM.out.2 hx
          have hxm := List.mem_of_getElem? hx
          have hvv := map_at VS.out.2 hx hy
          obtain ⟨rfl, hvv⟩ := Prod.mk.inj hvv
          have H := Lib.hid (ihd _ hxm _ B wr.drew (HR.out.drew.kidD j _ (Nat.le_refl _) hx) (PL.out.2 _ (List.mem_of_getElem? hy)).2 hiy (fun p hp hc => AP.out.2 p (placesD_sub hy p hp) (KK.out.inD _ hxm _ hc).1) hvv)
          have HX := Lib.hid hx
          have HG := Lib.hid (show g2 ∉ blocksOf (T.mrows (.mk k1 n1 s1 la1 lc1 l1 da1 dc1 d1)) from fun h => (KK.out.inD _ hxm _ h).2.2 rfl)
          have HA := Lib.hid (fun w1 (ho : Only (blocksOf (T.mrows (.mk k1 n1 s1 la1 lc1 l1 da1 dc1 d1))) wr w1) => (World.cell?_of_block (a := ⟨b, o + j * 6, none⟩) (ho.block _ (cell_lt y0) (fun hc => AP.out.2 (⟨b, o + j * 6, none⟩, .string f1) ((T.mem_placesD _ _ _ _).2 ⟨j, _, hy, .inl (mem_laid.2 ⟨0, .string f1, rfl, by simp [at_]⟩)⟩) (KK.out.inD _ hxm _ hc).1))).trans y0)
          have HBX := Lib.hid (fun w1 (ho : Only (blocksOf (T.mrows (.mk k1 n1 s1 la1 lc1 l1 da1 dc1 d1))) wr w1) => keep_row ho HR.out.box2 (fun hc => by have := HS.out _ (KK.out.inD _ hxm _ hc).1; omega))
          clear hx hy hiy hxm hvv
          have i0 : (0 : Int) ≤ (j : Int) := by omega
          have i1 : (j : Int) < ((dx.length + 1 : Nat) : Int) := by omega
          have i2 : (j : Int) < (dx.length : Int) + 1 := by omega
          have f2 : (f1.toList == f1.toList) = true := by simp
          go_wp2_with fail
          go_still_tail 11, (by kernel_rfl)
          change wpList _ _ _ _ _ wr.drew
          go_wp2_with (go_at_call 12; refine H.out.mono ?_; rintro e w1 ⟨rfl, ho1⟩; have ho := ho1.undrew; clear ho1; have LV := HR.out.row2.only ho HG.out; have z0 := (LV.cell (i := j * 6) (by omega)).trans ((HR.out.row2.cell (i := j * 6) (by omega)).symm.trans x0); have z1 := HA.out w1 ho; have kb1 : ∀ o, w1.cell? ⟨w.heap.size + 1, o, none⟩ = _ := row_cells (HBX.out w1 ho))
          go_quiet (fail)
          obtain ⟨v0, v1, v2, v3, v4, v5, q0, q1, q2, q3, q4, q5, t0, t1, t2, t3, t4, t5⟩ := LV.room6 (i := j) (by omega)
          go_wp2_with fail
          go_roundw
          case rel =>
            refine ⟨j + 1, by omega, rfl, by go_num, ?_⟩
            rw [← put6]
            exact kept_stepD HR.out KK.out HS.out (Nat.le_refl _) HX.out (ho.drewN _) [.string ⟨#[115, 112, 111, 105, 108, 116]⟩, .int .i64 0, .int .i64 0, .string ⟨#[]⟩, .slice none 0 0, .slice none 0 0] rfl
          case measure => simp [intOf]; omega
        · go_wp2_with fail
          go_ret
          exact ⟨rfl, HR.out.only⟩
end Go.Proofs.YtgcbcmhdlgklgaaDoor
