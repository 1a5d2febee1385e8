/- The contract of Right: no statement is proved here. -/
import Derived.Test.YtjfgmcmnpekahaaDoorRight
namespace Go.Proofs.YtjfgmcmnpekahaaDoor
open Go.RowKit
set_option maxRecDepth 100000

set_option maxHeartbeats 4000000 in
theorem rightAt_any (t : T) : t.ok → RightAt t := by
  induction t using T.ind with
  | h kx nx sx lax lcx lx dax dcx dx ihl ihd =>
  intro ok deep w h0 hn hin hT
  have HA := fun w => alone_any (.mk kx nx sx lax lcx lx dax dcx dx) ok w
  have HF := fun w h => fits_any (.mk kx nx sx lax lcx lx dax dcx dx) ok w h
  replace HA := Lib.hid HA
  replace HF := Lib.hid HF
  have HV := Lib.hid (show rightV deep (T.mk kx nx sx lax lcx lx dax dcx dx).val = _ by rw [T.val_mk, rightV, ← T.val_mk kx nx sx lax lcx lx dax dcx dx])
  obtain ⟨-, -, -, -, hs, hl1, hl2, hd1, hd2, okl, okd⟩ := ok.parts
  show Calls _ _ #[.agg #[.int .i64 kx, .int .i64 nx, .string sx, .slice lax lx.length lcx, .slice dax dx.length dcx], .int .i64 deep] _ _
  have HL : deep + 1 ≤ 100 → ∀ w1, Below w.heap.size w w1 → Calls Tryd.prog 49 #[.slice lax lx.length lcx, .int .i64 (deep + 1)] w1 fun e w' => e = .returned (.int .i64 (rightL (deep + 1) (lx.map T.val))) ∧ Below w1.heap.size w1 w' := fun hd w1 hw =>
    rightElements_any _ _ _ _ _ (by omega) hd (hin.parts.1.then_ hw) (hT.then_ hw) (by omega) fun x hx => ihl x hx (okl x hx)
  have HD : deep + 1 ≤ 100 → ∀ w1, Below w.heap.size w w1 → Calls Tryd.prog 50 #[.slice dax dx.length dcx, .int .i64 (deep + 1)] w1 fun e w' => e = .returned (.int .i64 (rightD (deep + 1) [] (dx.map fun f => (f.1, f.2.val)))) ∧ Below w1.heap.size w1 w' := fun hd w1 hw =>
    rightFields_any _ _ _ _ _ (by omega) hd (hin.parts.2.then_ hw) (hT.then_ hw) (by omega) (fun x hx => (okd x hx).1) fun x hx => ihd x hx (okd x hx).2
  replace HL := Lib.hid HL
  replace HD := Lib.hid HD
  clear ihl ihd okl okd hin ok hl1 hl2 hd1 hd2
  generalize (T.mk kx nx sx lax lcx lx dax dcx dx).val = v at HA HF HV ⊢
  generalize hA : aloneV v = av at HA HV
  generalize hF : fitsV v = fv at HF HV
  clear hA hF
  have e0 : (deep : Int) + 1 = deep + 1 := rfl
  clear e0
  by_cases k6 : kx = 6
  · subst k6
    by_cases hd : 20 < deep
    · replace HV := Lib.hid (show rightV deep v = 12 by rw [HV.out]; simp [hd])
      go_enter Tryd.func31, Tryd.ntmps31
      go_wp2_with fail
      go_ret
      exact ⟨ret_int (by rw [HV.out]), below1 _ _⟩
    · cases av
      · replace HV := Lib.hid (show rightV deep v = 10 by rw [HV.out]; simp [hd])
        go_enter Tryd.func31, Tryd.ntmps31
        go_wp2_with (go_at_call 47; refine (HA.out _).mono ?_; rintro e w1 ⟨rfl, hb1⟩; have hc1 : ∀ b o, b < w.heap.size + 1 → w1.cell? ⟨b, o, none⟩ = _ := fun b o h => hb1.cell (p := ⟨b, o, none⟩) (by simpa using h); have hz1 : w.heap.size + 1 ≤ w1.heap.size := (by have := hb1.size; simpa using this); have hb01 : Below w.heap.size w w1 := below_then (below1 _ _) hb1)
        go_ret
        exact ⟨ret_int (by rw [HV.out]), hb01⟩
      · cases fv
        · replace HV := Lib.hid (show rightV deep v = 10 by rw [HV.out]; simp [hd])
          go_enter Tryd.func31, Tryd.ntmps31
          go_wp2_with (first | (go_at_call 47; refine (HA.out _).mono ?_; rintro e w1 ⟨rfl, hb1⟩; have hc1 : ∀ b o, b < w.heap.size + 1 → w1.cell? ⟨b, o, none⟩ = _ := fun b o h => hb1.cell (p := ⟨b, o, none⟩) (by simpa using h); have hz1 : w.heap.size + 1 ≤ w1.heap.size := (by have := hb1.size; simpa using this); have hb01 : Below w.heap.size w w1 := below_then (below1 _ _) hb1) | (go_at_call 48; refine (HF.out _ (hT.then_ hb01)).mono ?_; rintro e w2 ⟨rfl, hb2⟩; have hc2 : ∀ b o, b < w.heap.size + 1 → w2.cell? ⟨b, o, none⟩ = _ := fun b o h => hb2.cell (p := ⟨b, o, none⟩) (by simp; omega); have hb02 : Below w.heap.size w w2 := below_then hb01 hb2))
          go_ret
          exact ⟨ret_int (by rw [HV.out]), hb02⟩
        · replace HV := Lib.hid (show rightV deep v = rightL (deep + 1) (lx.map T.val) by rw [HV.out]; simp [hd])
          go_enter Tryd.func31, Tryd.ntmps31
          go_wp2_with (first | (go_at_call 47; refine (HA.out _).mono ?_; rintro e w1 ⟨rfl, hb1⟩; have hc1 : ∀ b o, b < w.heap.size + 1 → w1.cell? ⟨b, o, none⟩ = _ := fun b o h => hb1.cell (p := ⟨b, o, none⟩) (by simpa using h); have hz1 : w.heap.size + 1 ≤ w1.heap.size := (by have := hb1.size; simpa using this); have hb01 : Below w.heap.size w w1 := below_then (below1 _ _) hb1) | (go_at_call 48; refine (HF.out _ (hT.then_ hb01)).mono ?_; rintro e w2 ⟨rfl, hb2⟩; have hc2 : ∀ b o, b < w.heap.size + 1 → w2.cell? ⟨b, o, none⟩ = _ := fun b o h => hb2.cell (p := ⟨b, o, none⟩) (by simp; omega); have hb02 : Below w.heap.size w w2 := below_then hb01 hb2) | (go_at_call 49; refine (HL.out (by omega) _ hb02).mono ?_; rintro e w3 ⟨rfl, hb3⟩))
          go_ret
          exact ⟨ret_int (by rw [HV.out]), below_then hb02 hb3⟩
  by_cases k5 : kx = 5
  · subst k5
    by_cases hd : 20 < deep
    · replace HV := Lib.hid (show rightV deep v = 12 by rw [HV.out]; simp [hd])
      go_enter Tryd.func31, Tryd.ntmps31
      go_wp2_with fail
      go_ret
      exact ⟨ret_int (by rw [HV.out]), below1 _ _⟩
    · cases av
      · replace HV := Lib.hid (show rightV deep v = 10 by rw [HV.out]; simp [hd])
        go_enter Tryd.func31, Tryd.ntmps31
        go_wp2_with (go_at_call 47; refine (HA.out _).mono ?_; rintro e w1 ⟨rfl, hb1⟩; have hc1 : ∀ b o, b < w.heap.size + 1 → w1.cell? ⟨b, o, none⟩ = _ := fun b o h => hb1.cell (p := ⟨b, o, none⟩) (by simpa using h); have hz1 : w.heap.size + 1 ≤ w1.heap.size := (by have := hb1.size; simpa using this); have hb01 : Below w.heap.size w w1 := below_then (below1 _ _) hb1)
        go_ret
        exact ⟨ret_int (by rw [HV.out]), hb01⟩
      · cases fv
        · replace HV := Lib.hid (show rightV deep v = 10 by rw [HV.out]; simp [hd])
          go_enter Tryd.func31, Tryd.ntmps31
          go_wp2_with (first | (go_at_call 47; refine (HA.out _).mono ?_; rintro e w1 ⟨rfl, hb1⟩; have hc1 : ∀ b o, b < w.heap.size + 1 → w1.cell? ⟨b, o, none⟩ = _ := fun b o h => hb1.cell (p := ⟨b, o, none⟩) (by simpa using h); have hz1 : w.heap.size + 1 ≤ w1.heap.size := (by have := hb1.size; simpa using this); have hb01 : Below w.heap.size w w1 := below_then (below1 _ _) hb1) | (go_at_call 48; refine (HF.out _ (hT.then_ hb01)).mono ?_; rintro e w2 ⟨rfl, hb2⟩; have hc2 : ∀ b o, b < w.heap.size + 1 → w2.cell? ⟨b, o, none⟩ = _ := fun b o h => hb2.cell (p := ⟨b, o, none⟩) (by simp; omega); have hb02 : Below w.heap.size w w2 := below_then hb01 hb2))
          go_ret
          exact ⟨ret_int (by rw [HV.out]), hb02⟩
        · replace HV := Lib.hid (show rightV deep v = rightD (deep + 1) [] (dx.map fun f => (f.1, f.2.val)) by rw [HV.out]; simp [hd])
          go_enter Tryd.func31, Tryd.ntmps31
          go_wp2_with (first | (go_at_call 47; refine (HA.out _).mono ?_; rintro e w1 ⟨rfl, hb1⟩; have hc1 : ∀ b o, b < w.heap.size + 1 → w1.cell? ⟨b, o, none⟩ = _ := fun b o h => hb1.cell (p := ⟨b, o, none⟩) (by simpa using h); have hz1 : w.heap.size + 1 ≤ w1.heap.size := (by have := hb1.size; simpa using this); have hb01 : Below w.heap.size w w1 := below_then (below1 _ _) hb1) | (go_at_call 48; refine (HF.out _ (hT.then_ hb01)).mono ?_; rintro e w2 ⟨rfl, hb2⟩; have hc2 : ∀ b o, b < w.heap.size + 1 → w2.cell? ⟨b, o, none⟩ = _ := fun b o h => hb2.cell (p := ⟨b, o, none⟩) (by simp; omega); have hb02 : Below w.heap.size w w2 := below_then hb01 hb2) | (go_at_call 50; refine (HD.out (by omega) _ hb02).mono ?_; rintro e w3 ⟨rfl, hb3⟩))
          go_ret
          exact ⟨ret_int (by rw [HV.out]), below_then hb02 hb3⟩
  have b5 : ((kx : Int) == 5) = false := by simp [k5]
  have b6 : ((kx : Int) == 6) = false := by simp [k6]
  replace HV := Lib.hid (show rightV deep v = if av && fv then 0 else 10 by rw [HV.out, if_neg (by omega), if_neg k6, if_neg k5])
  clear k5 k6
  cases av
  · go_enter Tryd.func31, Tryd.ntmps31
    go_wp2_with (go_at_call 47; refine (HA.out _).mono ?_; rintro e w1 ⟨rfl, hb1⟩; have hc1 : ∀ b o, b < w.heap.size + 1 → w1.cell? ⟨b, o, none⟩ = _ := fun b o h => hb1.cell (p := ⟨b, o, none⟩) (by simpa using h); have hz1 : w.heap.size + 1 ≤ w1.heap.size := (by have := hb1.size; simpa using this); have hb01 : Below w.heap.size w w1 := below_then (below1 _ _) hb1)
    go_ret
    exact ⟨ret_int (by rw [HV.out]; simp), hb01⟩
  · cases fv
    · go_enter Tryd.func31, Tryd.ntmps31
      go_wp2_with (first | (go_at_call 47; refine (HA.out _).mono ?_; rintro e w1 ⟨rfl, hb1⟩; have hc1 : ∀ b o, b < w.heap.size + 1 → w1.cell? ⟨b, o, none⟩ = _ := fun b o h => hb1.cell (p := ⟨b, o, none⟩) (by simpa using h); have hz1 : w.heap.size + 1 ≤ w1.heap.size := (by have := hb1.size; simpa using this); have hb01 : Below w.heap.size w w1 := below_then (below1 _ _) hb1) | (go_at_call 48; refine (HF.out _ (hT.then_ hb01)).mono ?_; rintro e w2 ⟨rfl, hb2⟩; have hc2 : ∀ b o, b < w.heap.size + 1 → w2.cell? ⟨b, o, none⟩ = _ := fun b o h => hb2.cell (p := ⟨b, o, none⟩) (by simp; omega); have hb02 : Below w.heap.size w w2 := below_then hb01 hb2))
      go_ret
      exact ⟨ret_int (by rw [HV.out]; simp), hb02⟩
    · go_enter Tryd.func31, Tryd.ntmps31
      go_wp2_with (first | (go_at_call 47; refine (HA.out _).mono ?_; rintro e w1 ⟨rfl, hb1⟩; have hc1 : ∀ b o, b < w.heap.size + 1 → w1.cell? ⟨b, o, none⟩ = _ := fun b o h => hb1.cell (p := ⟨b, o, none⟩) (by simpa using h); have hz1 : w.heap.size + 1 ≤ w1.heap.size := (by have := hb1.size; simpa using this); have hb01 : Below w.heap.size w w1 := below_then (below1 _ _) hb1) | (go_at_call 48; refine (HF.out _ (hT.then_ hb01)).mono ?_; rintro e w2 ⟨rfl, hb2⟩; have hc2 : ∀ b o, b < w.heap.size + 1 → w2.cell? ⟨b, o, none⟩ = _ := fun b o h => hb2.cell (p := ⟨b, o, none⟩) (by simp; omega); have hb02 : Below w.heap.size w w2 := below_then hb01 hb2))
      go_ret
      exact ⟨ret_int (by rw [HV.out]; simp), hb02⟩

/-- Right. -/
def rightOf (v : V) : Int := if 65536 < sizeV v then 3 else rightV 1 v
theorem right_any (t : T) (ok : t.ok) (w : World) (hin : t.In w) (hT : Tabs w) : Calls Tryd.prog 22 #[t.arg] w fun e w' => e = .returned (.int .i64 (rightOf t.val)) ∧ Below w.heap.size w w' := by
  have HS := fun w h => size_any t ok w h
  have HR := rightAt_any t ok
  replace HS := Lib.hid HS
  replace HR := Lib.hid HR
  obtain ⟨kx, nx, sx, lax, lcx, lx, dax, dcx, dx⟩ := t
  show Calls _ _ #[.agg #[.int .i64 kx, .int .i64 nx, .string sx, .slice lax lx.length lcx, .slice dax dx.length dcx]] _ _
  clear ok
  go_enter Tryd.func22, Tryd.ntmps22
  go_wp2_with (first
    | (go_at_call 23; refine (HS.out _ (hin.then_ (below1 _ _))).mono ?_; rintro e w1 ⟨rfl, hb1⟩; have hc1 : ∀ b o, b < w.heap.size + 1 → w1.cell? ⟨b, o, none⟩ = _ := fun b o h => hb1.cell (p := ⟨b, o, none⟩) (by simpa using h); have hb01 : Below w.heap.size w w1 := below_then (below1 _ _) hb1)
    | (go_at_call 31; refine (HR.out _ _ (by omega) (by omega) (by exact hin.then_ hb01) (by exact hT.then_ hb01)).mono ?_; rintro e w2 ⟨rfl, hb2⟩))
  · go_ret
    exact ⟨ret_int (by rw [rightOf, if_pos ‹_›]), hb01⟩
  · go_ret
    exact ⟨ret_int (by rw [rightOf, if_neg (by omega)]), below_then hb01 hb2⟩
end Go.Proofs.YtjfgmcmnpekahaaDoor
