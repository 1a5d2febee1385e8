/- The document's own Join where it joins: its contract. No statement is proved here. -/
import Derived.Test.YtocpbkmflihcnaaDoorSRefJ2
namespace Go.Proofs.YtocpbkmflihcnaaDoor
open Go.RowKit
set_option maxRecDepth 100000

theorem rowN_snoc (n : Nat) {k : Nat} (hk : k < 32) : (rowN n).take (k + 1) = (rowN n).take k ++ [t8N n (2 ^ k)] := by
  rw [List.take_add_one, rowN_get n hk]; rfl
theorem take32 (n : Nat) : (rowN n).take 32 = rowN n := List.take_of_length_le (by rw [rowN_len]; omega)
theorem rowN_word (n : Nat) {k : Nat} (hk : k < 32) : t8N n (2 ^ k) < 4294967296 := t8N_lt n (pow_lt32 hk)
theorem OwnW.form {w : World} {B : Nat} {v : Value} {l : List Nat} (h : OwnW w B v l) (hl : 1 ≤ l.length) : ∃ g c, v = .slice (some ⟨g, 0, none⟩) l.length c ∧ B ≤ g ∧ g < w.heap.size ∧ ∀ i x, l[i]? = some x → w.cell? ⟨g, i, none⟩ = some (.int .u32 (x : Nat)) := by
  have h0 := h
  obtain ⟨h1, h2⟩ := h
  rcases h2 with ⟨hv, hz⟩ | ⟨g, cap, cur, hv, hb, hg, hle, hcm, hrest⟩
  · omega
  · subst hv
    refine ⟨g, cap, rfl, hb, (h0.block g rfl).2, fun i x hx => ?_⟩
    have hi := lt_of_get hx
    rw [World.ownsRow.cellAt h0 i (by omega), wdV, List.getElem?_map, hx]
    rfl
theorem OwnW.base {w : World} {B B' : Nat} {v : Value} {l : List Nat} (h : OwnW w B v l) (hB : B' ≤ B) : OwnW w B' v l := by
  obtain ⟨h1, h2⟩ := h
  refine ⟨h1, ?_⟩
  rcases h2 with h2 | ⟨g, cap, cur, hv, hb, hrest⟩
  · exact .inl h2
  · exact .inr ⟨g, cap, cur, hv, by omega, hrest⟩
theorem xorW (a b : Nat) (ha : a < 4294967296) (hb : b < 4294967296) : wrap64 (bits .xor .u32 (a : Int) (b : Int)) = ((a ^^^ b : Nat) : Int) := by
  have := Nat.xor_lt_two_pow (n := 32) ha hb
  rw [xor32 a b ha hb]
  generalize a ^^^ b = c at *
  simp only [wrap64]
  omega
theorem rowN_sq {n k : Nat} (hk : k < 32) : timesN (rowN n) (t8N n (2 ^ k)) = t8N (n + n) (2 ^ k) := by rw [rowN_times n (rowN_word n hk), t8N_add]
set_option maxHeartbeats 4000000 in
theorem joinOk_any (X Y M : Nat) (hX : X < 4294967296) (hY : Y < 4294967296) (hM : M ≤ 9223372036854775807) (w : World) :
    Calls Tryd.prog 18 #[.int .i64 (X : Int), .int .i64 (Y : Int), .int .i64 (M : Int)] w fun e w' => e = .returned (.tuple #[.int .i64 (joinN X Y M : Nat), .int .i64 0]) ∧ Below w.heap.size w w' := by
  obtain ⟨i0, hi0, hz0, hz1, hz2⟩ := info_parts info_word
  have I0 := Lib.hid (And.intro hi0 (And.intro hz0 (And.intro hz1 hz2)))
  clear hi0 hz0 hz1 hz2
  have MX := Lib.hid (may_any (X : Int))
  have MY := Lib.hid (may_any (Y : Int))
  rw [show mayB (X : Int) = true from decide_eq_true (by omega)] at MX
  rw [show mayB (Y : Int) = true from decide_eq_true (by omega)] at MY
  go_enter Tryd.func18, Tryd.ntmps18
  go_wp2_with fail
  refine (MX.out _).mono ?_
  rintro e w' ⟨rfl, rfl⟩
  go_wp2_with fail
  refine (MY.out _).mono ?_
  rintro e w' ⟨rfl, rfl⟩
  go_wp2_with fail
  go_loopw [10, 11] (fun v i wr => ∃ k : Nat, k ≤ 32 ∧ i = .int .i64 k ∧ OwnW wr w.heap.size v ((rowN 1).take k) ∧ Below w.heap.size w wr) (fun _ i _ => 32 - (intOf i).toNat)
  case atStart => exact ⟨0, by omega, rfl, OwnW.nil _ _, Below.refl _ _⟩
  case round =>
    obtain ⟨k, hk, rfl, hown, hbel⟩ := hrel
    have HO := Lib.hid hown
    clear hown
    by_cases hlt : k < 32
    · obtain ⟨p, hp⟩ : ∃ p, p = 2 ^ k := ⟨_, rfl⟩
      have HS := shl_bit hlt
      have hpl := pow_lt32 hlt
      rw [← hp] at HS hpl
      have HT := Lib.hid (turns_any p 8 hpl (by omega))
      have HR := Lib.hid (rowN_snoc 1 hlt)
      rw [← hp] at HR
      have HS1 := Lib.hid HS
      clear HS hp
      have hz := hbel.size
      go_wp2_with fail
      rw [HS1.out]
      refine (HT.out _).mono ?_
      rintro e w' ⟨rfl, rfl⟩
      rw [show turnsN 8 p = t8N 1 p by rw [t8N, t8N, t8_def]]
      generalize t8N 1 p = y at *
      go_wp2_with (at_builtin; refine wpList_append_own _ rfl (.tmp 38) (.tmp 40) 47 rfl w.heap.size 45 i0 _ 1 4 Tryd.underlying47 I0.out.1 I0.out.2.1 I0.out.2.2.1 I0.out.2.2.2 rfl (by decide) _ _ _ rfl (World.ownsRow.alloc HO.out _) ⟨wr.heap.size, 0, none⟩ 1 1 [.int .u32 (y : Int)] rfl rfl ((World.ownsRow_lit (size := 1) (e := 45) wr #[.int .u32 (y : Int)] 1 (Nat.le_refl _) (by decide) rfl).cells rfl) (by intro u hu; simp at hu; subst hu; rfl) (by rw [List.length_take, rowN_len]; unfold maxLen; omega) (by rw [List.length_take, rowN_len]; omega) (Nat.le_trans hz (below1 _ _).size) ?_; intro v' w1 own1 grow1 _; have O1 := Lib.hid own1; have G1 := Lib.hid grow1; clear own1 grow1)
      go_roundw
      case rel =>
        refine ⟨k + 1, by omega, by go_num, ?_, ?_⟩
        · have h := O1.out
          rw [HR.out]
          unfold OwnW
          rw [List.length_append, wdV_append]
          exact h
        · exact (hbel.alloc hz _).grown G1.out (Nat.le_trans hz (below1 _ _).size) (fun g hg => (HO.out.block g hg).1)
      case measure => simp [intOf]; omega
    · have hk32 : k = 32 := by omega
      rw [hk32, take32] at HO
      rw [show (k : Int) = 32 by omega]
      clear hlt hk hk32
      go_wp2_with fail
      go_loopw [2, 10, 13] (fun m v u wr => ∃ (k q r : Nat), m = .int .i64 (q : Int) ∧ q ≤ M ∧ u = .int .u32 (r : Int) ∧ r < 4294967296 ∧ Hid (q = M / 2 ^ k ∧ r = t8N (M % 2 ^ k) X ∧ OwnW wr w.heap.size v (rowN (2 ^ k))) ∧ Below w.heap.size w wr) (fun m _ _ _ => (intOf m).toNat)
      case atStart => exact ⟨0, M, X, rfl, Nat.le_refl _, by first | rfl | (congr 1; omega), hX, ⟨by simp, by simp [Nat.mod_one, t8N], HO.out⟩, hbel⟩
      case round =>
        clear HO hbel
        obtain ⟨k, q, r, rfl, hq, rfl, hr, HK, hbel⟩ := hrel
        obtain ⟨wo, hwo⟩ : ∃ wo, wo = wr := ⟨_, rfl⟩
        subst hwo
        have hz := hbel.size
        by_cases h0 : 0 < q
        · obtain ⟨g, c, rfl, hg1, hg2, hcell⟩ := HK.2.2.form (by rw [rowN_len]; omega)
          rw [rowN_len]
          have HT := Lib.hid fun (r : Nat) (hr : r < 4294967296) (w' : World) (hw : Below wo.heap.size wo w') => times_any g c r (rowN (2 ^ k)) w' (rowN_len _) (rowN_lt _) hr fun i x hx => by
            have := hw.cell (p := ⟨g, i, none⟩) hg2
            rw [this]
            exact hcell i x hx
          have HC := Lib.hid hcell
          clear hcell
          by_cases hp : q % 2 = 1
          · have hb : (((q : Int) % 2) == 1) = true := by simp; omega
            have HP := Lib.hid hp
            clear hp
            go_wp2_with fail
            refine (HT.out r hr wo (Below.refl _ _)).mono ?_
            rintro e w' ⟨rfl, rfl⟩
            obtain ⟨r', hr'e⟩ : ∃ r', r' = timesN (rowN (2 ^ k)) r := ⟨_, rfl⟩
            rw [← hr'e]
            have HR' : Hid (r' = t8N (M % 2 ^ (k + 1)) X) := Lib.hid (by rw [hr'e, rowN_times _ hr, HK.2.1, square_odd (by rw [← HK.1]; exact HP.out)])
            have hr' : r' < 4294967296 := by rw [hr'e, rowN_times _ hr]; exact t8N_lt _ hr
            clear hr'e
            go_wp2_with fail
            go_loopw [14, 15] (fun v2 i w2 => ∃ j : Nat, j ≤ 32 ∧ i = .int .i64 j ∧ OwnW w2 wo.heap.size v2 ((rowN (2 ^ k + 2 ^ k)).take j) ∧ Below wo.heap.size wo w2) (fun _ i _ => 32 - (intOf i).toNat)
            case atStart => exact ⟨0, by omega, rfl, OwnW.nil _ _, Below.refl _ _⟩
            case round =>
              obtain ⟨j, hj, rfl, hown2, hbel2⟩ := hrel
              have HO2 := Lib.hid hown2
              have hz2 := hbel2.size
              clear hown2
              by_cases hlt : j < 32
              · have HR := Lib.hid (rowN_snoc (2 ^ k + 2 ^ k) hlt)
                have HQ := Lib.hid (rowN_sq (n := 2 ^ k) hlt)
                have hml := rowN_word (2 ^ k) hlt
                have hcl : _ = some _ := (hbel2.cell (p := ⟨g, j, none⟩) hg2).trans (HC.out j _ (rowN_get (2 ^ k) hlt))
                have HT2 := Lib.hid (HT.out _ hml wr hbel2)
                rw [HQ.out] at HT2
                generalize t8N (2 ^ k) (2 ^ j) = m at *
                generalize t8N (2 ^ k + 2 ^ k) (2 ^ j) = y at *
                go_wp2_with fail
                refine HT2.out.mono ?_
                rintro e w' ⟨rfl, rfl⟩
                clear hcl
                go_wp2_with (at_builtin; refine wpList_append_own _ rfl (.tmp 62) (.tmp 64) 47 rfl wo.heap.size 45 i0 _ 1 4 Tryd.underlying47 I0.out.1 I0.out.2.1 I0.out.2.2.1 I0.out.2.2.2 rfl (by decide) _ _ _ rfl (World.ownsRow.alloc HO2.out _) ⟨wr.heap.size, 0, none⟩ 1 1 [.int .u32 (y : Int)] rfl rfl ((World.ownsRow_lit (size := 1) (e := 45) wr #[.int .u32 (y : Int)] 1 (Nat.le_refl _) (by decide) rfl).cells rfl) (by intro u hu; simp at hu; subst hu; rfl) (by rw [List.length_take, rowN_len]; unfold maxLen; omega) (by rw [List.length_take, rowN_len]; omega) (Nat.le_trans hz2 (below1 _ _).size) ?_; intro v' w1 own1 grow1 _; have O1 := Lib.hid own1; have G1 := Lib.hid grow1; clear own1 grow1)
                go_roundw
                case rel =>
                  refine ⟨j + 1, by omega, by go_num, ?_, ?_⟩
                  · have h := O1.out
                    rw [HR.out]
                    unfold OwnW
                    rw [List.length_append, wdV_append]
                    exact h
                  · exact (hbel2.alloc hz2 _).grown G1.out (Nat.le_trans hz2 (below1 _ _).size) (fun g hg => (HO2.out.block g hg).1)
                case measure => simp [intOf]; omega
              · have hj32 : j = 32 := by omega
                rw [hj32, take32] at HO2
                rw [show (j : Int) = 32 by omega]
                clear hlt hj hj32
                go_wp2_with fail
                go_roundw
                case rel => exact ⟨k + 1, q / 2, r', rfl, by omega, rfl, hr', ⟨by rw [HK.1, square_half], HR'.out, by rw [Nat.pow_succ, Nat.mul_two]; exact HO2.out.base hz⟩, below_then hbel (hbel2.mono (Nat.le_refl _))⟩
                case measure => simp [intOf]; omega
          · have hb : (((q : Int) % 2) == 1) = false := by simp; omega
            have HR' : Hid (r = t8N (M % 2 ^ (k + 1)) X) := Lib.hid (by rw [HK.2.1, square_even (by rw [← HK.1]; exact hp)])
            have hr' := hr
            clear hp
            go_wp2_with fail
            go_loopw [14, 15] (fun v2 i w2 => ∃ j : Nat, j ≤ 32 ∧ i = .int .i64 j ∧ OwnW w2 wo.heap.size v2 ((rowN (2 ^ k + 2 ^ k)).take j) ∧ Below wo.heap.size wo w2) (fun _ i _ => 32 - (intOf i).toNat)
            case atStart => exact ⟨0, by omega, rfl, OwnW.nil _ _, Below.refl _ _⟩
            case round =>
              obtain ⟨j, hj, rfl, hown2, hbel2⟩ := hrel
              have HO2 := Lib.hid hown2
              have hz2 := hbel2.size
              clear hown2
              by_cases hlt : j < 32
              · have HR := Lib.hid (rowN_snoc (2 ^ k + 2 ^ k) hlt)
                have HQ := Lib.hid (rowN_sq (n := 2 ^ k) hlt)
                have hml := rowN_word (2 ^ k) hlt
                have hcl : _ = some _ := (hbel2.cell (p := ⟨g, j, none⟩) hg2).trans (HC.out j _ (rowN_get (2 ^ k) hlt))
                have HT2 := Lib.hid (HT.out _ hml wr hbel2)
                rw [HQ.out] at HT2
                generalize t8N (2 ^ k) (2 ^ j) = m at *
                generalize t8N (2 ^ k + 2 ^ k) (2 ^ j) = y at *
                go_wp2_with fail
                refine HT2.out.mono ?_
                rintro e w' ⟨rfl, rfl⟩
                clear hcl
                go_wp2_with (at_builtin; refine wpList_append_own _ rfl (.tmp 62) (.tmp 64) 47 rfl wo.heap.size 45 i0 _ 1 4 Tryd.underlying47 I0.out.1 I0.out.2.1 I0.out.2.2.1 I0.out.2.2.2 rfl (by decide) _ _ _ rfl (World.ownsRow.alloc HO2.out _) ⟨wr.heap.size, 0, none⟩ 1 1 [.int .u32 (y : Int)] rfl rfl ((World.ownsRow_lit (size := 1) (e := 45) wr #[.int .u32 (y : Int)] 1 (Nat.le_refl _) (by decide) rfl).cells rfl) (by intro u hu; simp at hu; subst hu; rfl) (by rw [List.length_take, rowN_len]; unfold maxLen; omega) (by rw [List.length_take, rowN_len]; omega) (Nat.le_trans hz2 (below1 _ _).size) ?_; intro v' w1 own1 grow1 _; have O1 := Lib.hid own1; have G1 := Lib.hid grow1; clear own1 grow1)
                go_roundw
                case rel =>
                  refine ⟨j + 1, by omega, by go_num, ?_, ?_⟩
                  · have h := O1.out
                    rw [HR.out]
                    unfold OwnW
                    rw [List.length_append, wdV_append]
                    exact h
                  · exact (hbel2.alloc hz2 _).grown G1.out (Nat.le_trans hz2 (below1 _ _).size) (fun g hg => (HO2.out.block g hg).1)
                case measure => simp [intOf]; omega
              · have hj32 : j = 32 := by omega
                rw [hj32, take32] at HO2
                rw [show (j : Int) = 32 by omega]
                clear hlt hj hj32
                go_wp2_with fail
                go_roundw
                case rel => exact ⟨k + 1, q / 2, r, rfl, by omega, rfl, hr', ⟨by rw [HK.1, square_half], HR'.out, by rw [Nat.pow_succ, Nat.mul_two]; exact HO2.out.base hz⟩, below_then hbel (hbel2.mono (Nat.le_refl _))⟩
                case measure => simp [intOf]; omega
        · have hq0 : q = 0 := by omega
          have HV := Lib.hid (show r = t8N M X by rw [HK.2.1, square_end (by rw [← HK.1, hq0])])
          have HJ := Lib.hid (xorW r Y hr hY)
          subst hq0
          go_wp2_with fail
          rw [HJ.out]
          go_ret2
          exact ⟨by rw [HV.out]; rfl, hbel⟩
theorem refJoin_any (x y n : Int) (hx : okInt x) (hy : okInt y) (hn : okInt n) (w : World) :
    Calls Tryd.prog 18 #[.int .i64 x, .int .i64 y, .int .i64 n] w fun e w' => e = .returned (.tuple #[.int .i64 (joinP x y n), .int .i64 (joinE x y n)]) ∧ Below w.heap.size w w' := by
  cases h : okJ x y n
  · exact (joinBad_any x y n h w).mono fun e w' ⟨h1, h2⟩ => ⟨h1, by rw [← h2]; exact Below.refl _ _⟩
  · unfold joinP joinE
    rw [h]
    unfold okJ at h
    rw [Bool.and_eq_true, Bool.and_eq_true, decide_eq_true_eq] at h
    obtain ⟨h1, h2, h3⟩ := h
    have h1 := of_decide_eq_true h1
    have h2 := of_decide_eq_true h2
    obtain ⟨X, rfl⟩ := Int.eq_ofNat_of_zero_le h1.1
    obtain ⟨Y, rfl⟩ := Int.eq_ofNat_of_zero_le h2.1
    obtain ⟨M, rfl⟩ := Int.eq_ofNat_of_zero_le h3
    have := joinOk_any X Y M (by omega) (by omega) (by unfold okInt at hn; omega) w
    simpa using this
end Go.Proofs.YtocpbkmflihcnaaDoor
