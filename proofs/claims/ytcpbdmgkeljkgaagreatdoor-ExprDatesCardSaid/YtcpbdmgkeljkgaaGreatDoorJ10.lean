/- Strict operators over dates, made by a function with what it has captured. What a date's operator makes of a date. No statement is proved here. -/
import Derived.Test.YtcpbdmgkeljkgaaGreatDoorEEa
import Derived.Test.YtcpbdmgkeljkgaaGreatDoorJ9
import Derived.Deep.RegionHeldLaw
import Derived.Test.YtcpbdmgkeljkgaaGreatDoorEGt
namespace Go.Proofs.YtcpbdmgkeljkgaaGreatDoor
open Go.RowKit
set_option maxRecDepth 100000

/-- A date, as a value. -/
def dateT (n : Int) : T := .mk 10 n ⟨#[]⟩ none 0 [] none 0 []
theorem dateT_noth (n : Int) : nothT (dateT n) = false := by simp [dateT, nothT, misT]
theorem have_date (m : Int) (hm : m = 1024) (n : Int) (s : ByteArray) (x y : Value) (w : World) : Calls Tryz.prog 277 #[.int .i64 m, .agg #[.int .i64 10, .int .i64 n, .string s, x, y]] w fun e w' => e = .returned (.bool true) ∧ Below w.heap.size w w' := by
  subst hm
  go_enter Tryz.func277, Tryz.ntmps277
  go_wp2_with fail
  go_ret
  exact ⟨rfl, below1 _ _⟩
set_option maxHeartbeats 2000000 in
theorem madeAloneC_any {gM : FuncId} {caps : Array Value} {R : T → Prop} {err : Int} {rs : List T} (v x : Value) (w : World) (hin : ∀ r ∈ rs, r.In w) (hf : ∀ (args : Array Value) (w : World), (callFunc gM args).run Tryz.prog w = .ok (.enter gM args) w) (h : Calls Tryz.prog gM (#[x] ++ caps) (w.alloc (box 0 0)) (MadeAt R err rs (w.alloc (box 0 0)))) :
    Calls Tryz.prog 116 #[(.func (.func gM) #[] caps), v, x] w (MadeAt R err rs w) := by
  have b0 := below1 w (box 0 0)
  have r0 := heap_alloc_new w (box 0 0)
  have hz : (w.alloc (box 0 0)).heap.size = w.heap.size + 1 := by simp
  generalize hU : w.alloc (box 0 0) = U at h b0 r0 hz
  have HU := Lib.hid (And.intro hU (And.intro b0 (And.intro r0 hz)))
  have H := Lib.hid h
  clear h b0 r0 hU hz
  unfold box at HU
  go_enter Tryz.func116, Tryz.ntmps116
  go_wp2_with fail
  rw [HU.out.1]
  refine H.out.mono ?_
  rintro e w1 ⟨⟨rk, rm, rs', rla, rlc, rl, rda, rdc, rf⟩, rfl, hR, hok, hi, hp, hb⟩
  have X := row_then HU.out.2.2.1 hb
  have cX := row_cells X
  have fX := rowf X
  have HX := Lib.hid (And.intro X (And.intro hR (And.intro hok (And.intro hi (And.intro hp hb)))))
  clear X hR hok hi hp hb
  dsimp only [T.arg, T.cells]
  go_wp2_with fail
  generalize hV : World.setCell _ _ _ = V'
  obtain ⟨t1, t2⟩ := put5V HX.out.1 hV
  have q := row_cells t2
  obtain ⟨-, hR, hok, hi, hp, hb⟩ := HX.out
  have hz := HU.out.2.2.2
  have hres : MadeAt R err rs w (.returned (.tuple #[T.arg (.mk rk rm rs' rla rlc rl rda rdc rf), .int .i64 err])) V' :=
    ⟨_, rfl, hR, hok, hi.onlyG t1 (fun p hp' => by
      rcases hp p hp' with h | ⟨r', hr', h⟩
      · omega
      · have := World.block_lt_of_cell? w p.1 (hin r' hr' p h); omega), fun p hp' => (hp p hp').imp (fun h => by omega) id, ((Only.of_below (S := []) (below_then HU.out.2.1 hb)).then_ t1 (fun i hi => .inr (by simp at hi; omega))).below⟩
  have HR := Lib.hid hres
  clear hV t1 t2 cX fX hR hok hi hp hb hres HX HU hz
  simp [bodyPost, results, Tryz.results116, go_sem, q]
  exact HR.out
set_option maxHeartbeats 4000000 in
theorem strictC_op {W : World} {d : T} {least : Int} {more : Bool} {gk nk ck : Nat} {gM : FuncId} {caps : Array Value} (kms : List Int) (hkl : kms.length = nk) (hk1 : 1 ≤ nk) (hk2 : nk ≤ 1000) (hk : ∀ (j : Nat) (m : Int), kms[j]? = some m → W.cell? ⟨gk, j, none⟩ = some (.int .i64 m))
    (l : List Nod) (hl0 : 1 ≤ l.length) (hl : l.length ≤ 1000) (H : ∀ a ∈ l, Ev W d a.u a.x a.k a.R 0) (ga c : Nat) (hrow : ∀ (i : Nat) (a : Nod), l[i]? = some a → W.cell? ⟨ga, i, none⟩ = some a.cell)
    (hint : ∀ a ∈ l, ∀ r, a.R r → ∃ n, r = dateT n) (hkm : ∀ m ∈ kms, m = 1024) {R : T → Prop} {err : Int} (hf : ∀ (args : Array Value) (w : World), (callFunc gM args).run Tryz.prog w = .ok (.enter gM args) w) (HM : MadeTo' W gM caps l R err) :
    OpTo W d 135 (.agg #[.int .i64 least, .bool more, .slice (some ⟨gk, 0, none⟩) nk ck, .func (.func 116) #[(.func (.func gM) #[] caps)] #[]]) ga l.length c (stepsN l) R err := by
  refine ⟨279, ⟨fun w => by kernel_rfl, fun args w => by kernel_rfl⟩, fun w g gb n hb hg hw hn => ?_⟩
  have HA := Lib.hid (fun w' hb' hw' => evalAll_any l hl0 hl H ga c hrow w' g gb n hb' hg hw' hn)
  clear H hrow
  go_enter Tryz.func279, Tryz.ntmps279
  go_wp2_with fail
  have hgs := lt_of_block hw.row
  have b0 := below2 w (.cells #[.int .i64 least, .bool more, .slice (some ⟨gk, 0, none⟩) nk ck, .func (.func 116) #[(.func (.func gM) #[] caps)] #[]] 135 (0, 0)) (box 0 0)
  have r0 := row_then (heap_alloc_new w (.cells #[.int .i64 least, .bool more, .slice (some ⟨gk, 0, none⟩) nk ck, .func (.func 116) #[(.func (.func gM) #[] caps)] #[]] 135 (0, 0))) (below1 _ (box 0 0))
  have r1 := heap_alloc_new (w.alloc (.cells #[.int .i64 least, .bool more, .slice (some ⟨gk, 0, none⟩) nk ck, .func (.func 116) #[(.func (.func gM) #[] caps)] #[]] 135 (0, 0))) (box 0 0)
  rw [World.size_alloc] at r1
  have hz0 : ((w.alloc (.cells #[.int .i64 least, .bool more, .slice (some ⟨gk, 0, none⟩) nk ck, .func (.func 116) #[(.func (.func gM) #[] caps)] #[]] 135 (0, 0))).alloc (box 0 0)).heap.size = w.heap.size + 2 := by simp
  generalize hU : (w.alloc (.cells #[.int .i64 least, .bool more, .slice (some ⟨gk, 0, none⟩) nk ck, .func (.func 116) #[(.func (.func gM) #[] caps)] #[]] 135 (0, 0))).alloc (box 0 0) = U at b0 r0 r1 hz0
  have HU := Lib.hid (And.intro hU (And.intro b0 (And.intro r0 (And.intro r1 hz0))))
  have HE := Lib.hid (HA.out U (below_onlyG hb (Only.of_below b0) hg hb.size) (hw.then_ (Only.of_below b0) (row_then hw.row b0)))
  have HKM := Lib.hid (And.intro hk (And.intro hb hw))
  clear b0 r0 r1 hz0 hU hk hb hw HA
  unfold box at HU
  rw [HU.out.1]
  refine HE.out.mono ?_
  rintro e w1 ⟨rs, rfl, hR⟩
  have hz1 := hR.size
  have hin1 := InL.of_row hR.row (fun r hr => (hR.ins r hr).1)
  have hrl : rs.length = l.length := hR.len
  have HN := Lib.hid (containsN_any (some ⟨U.heap.size, 0, none⟩) l.length rs)
  have HR := Lib.hid (And.intro hR hin1)
  have hany : rs.any nothT = false := by
    rw [List.any_eq_false]
    intro r hr
    obtain ⟨i, hi, rfl⟩ := List.mem_iff_getElem.1 hr
    obtain ⟨m, hm⟩ := hint (l[i]'(by omega)) (List.getElem_mem _) _ (hR.val i _ _ (List.getElem?_eq_getElem hi) (List.getElem?_eq_getElem (by omega)))
    rw [hm, dateT_noth]
    decide
  rw [hrl, hany] at HN
  have X0 := keep_row hR.only HU.out.2.2.1 (by simp; omega)
  have cX0 := row_cells X0
  clear hR hin1 hany X0
  go_wp2_with fail
  refine (HN.out _ HR.out.2 (by omega)).mono ?_
  rintro e w2 ⟨rfl, b2⟩
  have HW2 := Lib.hid (And.intro b2 (row_then (keep_row HR.out.1.only HU.out.2.2.1 (by simp; omega)) b2))
  have hin2 := HR.out.2.then_ b2
  have HIN := Lib.hid hin2
  clear hin2 cX0 HN HE
  go_wp2_with fail
  go_loopw [10, 11, 27] (fun _ _ i wr => ∃ k : Nat, k ≤ l.length ∧ i = .int .i64 k ∧ Below w2.heap.size w2 wr) (fun _ _ i _ => l.length - (intOf i).toNat)
  case atStart => exact ⟨0, by omega, rfl, Below.refl _ _⟩
  case round =>
    obtain ⟨k, hk, rfl, hbel⟩ := hrel
    have HB := Lib.hid hbel
    have c3 := row_cells (row_then HW2.out.2 hbel)
    by_cases h1 : k < l.length
    · obtain ⟨b, o, kx, nx, sx, lax, lcx, lx, dax, dcx, dx, e1, hx, hix, x0, x1, x2, x3, x4⟩ := (HIN.out.then_ hbel).five (i := k) (by omega)
      obtain ⟨n', hn'⟩ := hint (l[k]'h1) (List.getElem_mem _) _ (HR.out.1.val k _ _ hx (List.getElem?_eq_getElem h1))
      simp only [dateT, T.mk.injEq] at hn'
      obtain ⟨rfl, rfl, rfl, rfl, rfl, rfl, rfl, rfl, rfl⟩ := hn'
      injection e1 with e1
      injection e1 with e1 e2
      subst e1 e2
      simp only [Nat.zero_add, List.length_nil] at x0 x1 x2 x3 x4
      clear hx hix hbel
      have hw1' : IntKind.i64.wrap ((nk : Int) - 1) = ((nk - 1 : Nat) : Int) := by rw [IntKind.wrap_i64]; omega
      obtain ⟨j, hj, hjl⟩ : ∃ j : Nat, j = min k (nk - 1) ∧ j < nk := ⟨min k (nk - 1), rfl, by omega⟩
      obtain ⟨km, hkm1⟩ : ∃ km, kms[j]? = some km := ⟨_, List.getElem?_eq_getElem (by omega)⟩
      have hkm2 := hkm km (List.mem_of_getElem? hkm1)
      have HK := Lib.hid (fun n s x y w => have_date km hkm2 n s x y w)
      have cK : wr.cell? ⟨gk, j, none⟩ = some (.int .i64 km) := by
        have h0 := HKM.out.1 j km hkm1
        have hlt := World.block_lt_of_cell? W _ h0
        have hw := HKM.out.2.1.size
        have hU := HU.out.2.1
        have h1 := (hU.cell (p := ⟨gk, j, none⟩) (by simp at hlt ⊢; omega)).trans ((HKM.out.2.1.cell hlt).trans h0)
        have h2 := cell_onlyG h1 HR.out.1.only (by simp at hlt ⊢; omega)
        have h3 := (HW2.out.1.cell (World.block_lt_of_cell? _ _ h2)).trans h2
        exact (HB.out.cell (World.block_lt_of_cell? _ _ h3)).trans h3
      clear hkm hkm1 hkm2 hint
      have d0 := c3 0
      have d1 := c3 1
      have d2 := c3 2
      simp at d0 d1 d2
      have hwr := Nat.lt_of_lt_of_le (lt_of_block HW2.out.2) HB.out.size
      have hgk := World.block_lt_of_cell? _ _ cK
      simp only at hgk
      by_cases hc : nk - 1 < k
      · have hje : nk - 1 = j := by omega
        have hc1 : (((nk - 1 : Nat) : Int) < (k : Int)) := by omega
        have hc2 : decide (((nk - 1 : Nat) : Int) < (k : Int)) = true := by simpa using hc1
        rw [hje] at hc1 hc2 hw1'
        have hj0 : (0 : Int) ≤ j := by omega
        have hj1 : (j : Int) < nk := by omega
        clear hj hje hc
        go_wp2_with fail
        go_region_held3 (fun w' => w'.cell? ⟨w.heap.size, 2, none⟩ = some (.slice (some ⟨gk, 0, none⟩) nk ck) ∧ w'.cell? ⟨gk, j, none⟩ = some (.int .i64 km) ∧ w'.cell? ⟨wr.heap.size, 0, none⟩ = some (.int .i64 10) ∧ w'.cell? ⟨wr.heap.size, 1, none⟩ = some (.int .i64 nx) ∧ w'.cell? ⟨wr.heap.size, 2, none⟩ = some (.string ⟨#[]⟩) ∧ w'.cell? ⟨wr.heap.size, 3, none⟩ = some (.slice none 0 0) ∧ w'.cell? ⟨wr.heap.size, 4, none⟩ = some (.slice none 0 0))
          (go_keep)
          (first | (go_at_call 277; refine (HK.out _ _ _ _ _).mono ?_; rintro e w3 ⟨rfl, hb3⟩; have k1 := hb3.cell (p := ⟨w.heap.size, 2, none⟩) (by simp; omega); have k2 := hb3.cell (p := ⟨gk, j, none⟩) (by simp; omega); have k3 := fun o => hb3.cell (p := ⟨wr.heap.size, o, none⟩) (by simp)))
        all_goals go_wp2_with fail
        all_goals go_roundw
        all_goals try (case measure => simp [intOf]; omega)
        all_goals try (case rel => exact ⟨k + 1, by omega, by go_num, below_then HB.out (by first | exact below_then (below1 _ _).drew hb3 | exact below_then (below_drewN (below1 _ _) _) hb3 | exact below_then (below1 _ _).drew.drew hb3)⟩)
      · have hje : k = j := by omega
        have hc1 : ¬ (((nk - 1 : Nat) : Int) < (k : Int)) := by omega
        have hc2 : decide (((nk - 1 : Nat) : Int) < (k : Int)) = false := by simpa using hc1
        rw [← hje] at cK hjl
        obtain ⟨y, hy⟩ : ∃ y, nk - 1 = y := ⟨_, rfl⟩
        rw [hy] at hc1 hc2 hw1'
        have hc3 : (k : Int) ≤ y := by omega
        have hc4 : ¬ (y < k) := by omega
        clear hy
        have hj0 : (0 : Int) ≤ k := by omega
        have hj1 : (k : Int) < nk := by omega
        clear hj hje hc
        go_wp2_with fail
        go_region_held3 (fun w' => w'.cell? ⟨w.heap.size, 2, none⟩ = some (.slice (some ⟨gk, 0, none⟩) nk ck) ∧ w'.cell? ⟨gk, k, none⟩ = some (.int .i64 km) ∧ w'.cell? ⟨wr.heap.size, 0, none⟩ = some (.int .i64 10) ∧ w'.cell? ⟨wr.heap.size, 1, none⟩ = some (.int .i64 nx) ∧ w'.cell? ⟨wr.heap.size, 2, none⟩ = some (.string ⟨#[]⟩) ∧ w'.cell? ⟨wr.heap.size, 3, none⟩ = some (.slice none 0 0) ∧ w'.cell? ⟨wr.heap.size, 4, none⟩ = some (.slice none 0 0))
          (go_keep)
          (first | (go_at_call 277; refine (HK.out _ _ _ _ _).mono ?_; rintro e w3 ⟨rfl, hb3⟩; have k1 := hb3.cell (p := ⟨w.heap.size, 2, none⟩) (by simp; omega); have k2 := hb3.cell (p := ⟨gk, k, none⟩) (by simp; omega); have k3 := fun o => hb3.cell (p := ⟨wr.heap.size, o, none⟩) (by simp)))
        all_goals go_wp2_with fail
        all_goals go_roundw
        all_goals try (case measure => simp [intOf]; omega)
        all_goals try (case rel => exact ⟨k + 1, by omega, by go_num, below_then HB.out (by first | exact below_then (below1 _ _).drew hb3 | exact below_then (below_drewN (below1 _ _) _) hb3 | exact below_then (below1 _ _).drew.drew hb3)⟩)
    · have hkl : k = l.length := by omega
      subst hkl
      clear hbel
      have bW0 : Below W.heap.size W w1 := below_onlyG (below_onlyG HKM.out.2.1 (Only.of_below HU.out.2.1) hg HKM.out.2.1.size) HR.out.1.only hg (by have := HKM.out.2.1.size; have := HU.out.2.1.size; omega)
      have bW : Below W.heap.size W (wr.alloc (box 0 0)) := below_then bW0 (below_then (below_then b2 HB.out) (below1 _ _))
      have hinr : ∀ r ∈ rs, r.In wr := fun r hr => (((HR.out.1.ins r hr).1.then_ b2)).then_ HB.out
      go_wp2_with fail
      refine (madeAloneC_any (gM := gM) (caps := caps) (R := R) (err := err) (rs := rs) _ _ wr hinr hf (HM _ _ _ rs bW hrl HR.out.1.val HR.out.1.ok ((HIN.out.then_ HB.out).then_ (below1 _ _)) (row_keep (row_keep (row_keep HR.out.1.row b2) HB.out) (below1 _ _)))).mono ?_
      rintro e w3 ⟨⟨rk, rm, rs', rla, rlc, rl, rda, rdc, rf⟩, rfl, hR1, hok1, hi1, hp1, hb3⟩
      have X := row_then (row_then (row_then (keep_row HR.out.1.only HU.out.2.2.2.1 (by simp; omega)) b2) HB.out) hb3
      have HX := Lib.hid (And.intro X (And.intro hR1 (And.intro hok1 (And.intro hi1 (And.intro hp1 hb3)))))
      have cX := row_cells X
      have fX := rowf X
      clear hR1 hok1 hi1 hp1 hb3 X c3
      dsimp only [T.arg, T.cells]
      go_wp2_with fail
      generalize hV : World.setCell _ _ _ = V'
      obtain ⟨t1, t2⟩ := put5V HX.out.1 hV
      have q := row_cells t2
      obtain ⟨-, hR1, hok1, hi1, hp1, hb3⟩ := HX.out
      have hUz := HU.out.2.2.2.2
      have hw2 := b2.size
      have hwr := HB.out.size
      have hwz := HKM.out.2.1.size
      have hpl : ∀ p ∈ (T.mk rk rm rs' rla rlc rl rda rdc rf).places, p.1.block < W.heap.size ∨ U.heap.size ≤ p.1.block := fun p hp => by
        rcases hp1 p hp with h | ⟨r', hr', h⟩
        · omega
        · rcases (HR.out.1.ins r' hr').2 p h with h | h <;> omega
      have hres : EvTo W.heap.size g gb (n + stepsN l) R err w (.returned (.tuple #[T.arg (.mk rk rm rs' rla rlc rl rda rdc rf), .int .i64 err])) V' :=
        ⟨_, rfl, hR1, hok1, hi1.onlyG t1 (fun p hp => by rcases hpl p hp with h | h <;> omega), fun p hp => (hpl p hp).imp id (fun h => by omega),
          (((((Only.of_below (S := [g]) HU.out.2.1).trans HR.out.1.only).trans (Only.of_below b2)).trans (Only.of_below HB.out)).trans (Only.of_below hb3)).then_ t1 (fun i hi => .inr (by simp at hi; omega)), by
          have hs := row_then (row_then (row_then HR.out.1.steps b2) HB.out) hb3
          rw [List.take_length] at hs
          rw [t1.block g (lt_of_block hs) (by simp; omega)]
          exact hs⟩
      have HRR := Lib.hid hres
      clear hV t1 t2 cX fX hR1 hok1 hi1 hp1 hb3 hres HX HU HR hpl
      simp [bodyPost, results, Tryz.results279, go_sem, q]
      exact HRR.out
end Go.Proofs.YtcpbdmgkeljkgaaGreatDoor
namespace Go.Proofs.YtcpbdmgkeljkgaaGreatDoor
open Go.RowKit
set_option maxRecDepth 100000

def oneD (n : Int) : Array Value := #[.int .i64 10, .int .i64 n, .string ⟨#[]⟩, .slice none 0 0, .slice none 0 0]
theorem row_oneD {w : World} {B g : Nat} {a : Int} (h : w.ownsRow B 28 5 (.slice (some ⟨g, 0, none⟩) 1 1) 1 ([dateT a].flatMap T.cells)) : w.heap[g]? = some (.cells (oneD a) 28 (0, 0)) := by
  obtain ⟨h1, h2⟩ := h
  rcases h2 with ⟨hv, -⟩ | ⟨g', cap', cur, hv, hb, hg, hkc, hm, hs, ht⟩
  · cases hv
  · injection hv with e1 e2 e3
    injection e1 with e1
    injection e1 with e1
    subst e1 e3
    rw [hg]
    have hcur : cur = oneD a := by
      apply Array.ext'
      rw [List.take_of_length_le (by rw [Array.length_toList, hs]; exact Nat.le_refl _)] at ht
      rw [ht]
      rfl
    rw [hcur]
theorem yr_range {r : Int} (h0 : 0 ≤ r) (h1 : r < 146097) : 0 ≤ Cal.yr r ∧ Cal.yr r ≤ 1000 := by
  have := Cal.c_range h0 h1
  have h2 := Cal.f_range (Cal.r1 r)
  have := Cal.y_range h2.1 h2.2
  have hc : 0 ≤ Cal.cC r ∧ Cal.cC r ≤ 3 := by unfold Cal.cC; split <;> omega
  unfold Cal.yr
  omega
theorem partF_in (o : DateX) {ms : Int} (hm : in64 ms) : in64 (partF o ms) := by
  have hq : -106751991168 ≤ ms / 86400000 ∧ ms / 86400000 ≤ 106751991167 := by unfold in64 at hm; omega
  have hr := Cal.doy_range ((ms / 86400000 + 719468) % 146097)
  have hm2 := Cal.mon_range hr.1 hr.2
  have hy := yr_range (r := (ms / 86400000 + 719468) % 146097) (by omega) (by omega)
  cases o <;> simp only [partF, in64]
  · unfold Cal.year; split <;> omega
  · unfold Cal.month; split <;> omega
  · unfold Cal.day; omega
  all_goals omega
theorem enter_part (o : DateX) (args : Array Value) (w : World) : (callFunc (partFn o) args).run Tryz.prog w = .ok (.enter (partFn o) args) w := by
  cases o <;> kernel_rfl
set_option maxHeartbeats 4000000 in
theorem date1_any (o : DateX) {ms : Int} (hm : in64 ms) (w : World) (g gp : Nat) (h : w.heap[g]? = some (.cells (oneD ms) 28 (0, 0))) (hp : w.heap[gp]? = some (.cells #[fOf (partFn o)] 99 (0, 0))) : Calls Tryz.prog 109 #[.slice (some ⟨g, 0, none⟩) 1 1, .pointer (some ⟨gp, 0, none⟩)] w fun e w' =>
    e = .returned (.tuple #[scal 3 (partF o ms), .int .i64 0]) ∧ Below w.heap.size w w' := by
  have HD := Lib.hid (fun w => partD_any o hm w)
  have hf := fun args w => enter_part o args w
  have HN := Lib.hid (fun w => number_any (partF o ms) w)
  generalize partF o ms = v at HD HN ⊢
  generalize partFn o = f at HD hf hp
  have x0 := heap_alloc_new w (box 0 0)
  have x1 := below1 w (box 0 0)
  have x2 := row_then h (below1 w (box 0 0))
  have x3 := row_then hp (below1 w (box 0 0))
  generalize hU : w.alloc (box 0 0) = U at x0 x1 x2 x3
  have HB := Lib.hid (And.intro x0 (And.intro x1 (And.intro x2 x3)))
  have HU := Lib.hid hU
  unfold scal at HN
  have cP := row_cells x3 0
  have cG := row_cells x2
  simp only [fOf] at cP
  unfold oneD at cG
  unfold box at HU
  clear h hp x0 x1 x2 x3 hU
  go_enter Tryz.func109, Tryz.ntmps109
  go_wp2_with fail
  rw [HU.out]
  go_region_with (first
      | (go_at_call 99; refine (HN.out _).mono ?_; rintro e w3 ⟨rfl, hb3⟩; have hacc : Below U.heap.size U w3 := (by first | exact hb3 | exact below_then (Below.refl _ U).drew hb3); have X3 := row_then HB.out.1 hacc; have cX := row_cells X3; have fX := rowf X3; unfold box at cX fX; have HX := Lib.hid X3; clear X3)
      | (refine (HD.out _).mono ?_; rintro e w3 ⟨rfl, rfl⟩))
  all_goals simp only [List.getElem_toArray, List.getElem_cons_succ, List.getElem_cons_zero, Act.put, List.setIfInBounds_toArray, List.set_cons_succ, List.set_cons_zero]
  all_goals go_wp2_with fail
  all_goals generalize hV : World.setCell _ _ _ = V'
  all_goals obtain ⟨t1, t2⟩ := put5V HX.out hV
  all_goals have q := row_cells t2
  all_goals have HF := Lib.hid ((Only.of_below (S := []) (below_then HB.out.2.1 hacc)).then_ t1 (fun x hx => .inr (by simp at hx; omega))).below
  all_goals clear hV t1 t2 cX fX
  all_goals simp [bodyPost, results, Tryz.results109, go_sem, q]
  all_goals exact ⟨by simp [scal], HF.out⟩
theorem date_made (o : DateX) {W : World} {x : Nod} {ms : Int} {gp : Nat} (hm : in64 ms) (hx : ∀ r, x.R r → r = dateT ms) (hp : W.heap[gp]? = some (.cells #[fOf (partFn o)] 99 (0, 0))) : MadeTo' W 109 #[.pointer (some ⟨gp, 0, none⟩)] [x] (fun r => r = intT (partF o ms)) 0 := by
  intro w B gr rs hbel hlen hR _ _ hrow
  match rs, hlen with
  | [r1], _ =>
    obtain rfl := hx r1 (hR 0 r1 x rfl rfl)
    refine (date1_any o hm w gr gp (row_oneD hrow) (row_then hp hbel)).mono ?_
    rintro e w' ⟨rfl, hb⟩
    exact ⟨intT (partF o ms), rfl, rfl, intT_ok (partF_in o hm), intT_in _ _, by rw [intT_places]; simp, hb⟩
end Go.Proofs.YtcpbdmgkeljkgaaGreatDoor
