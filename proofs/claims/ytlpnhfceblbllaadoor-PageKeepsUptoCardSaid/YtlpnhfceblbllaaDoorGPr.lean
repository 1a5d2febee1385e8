/- The program's Read of a page. No statement is proved here. -/
import Derived.Test.YtlpnhfceblbllaaDoorGPw2
import Derived.Test.YtlpnhfceblbllaaDoorJ4
import Derived.Test.YtlpnhfceblbllaaDoorDBlk3
namespace Go.Proofs.YtlpnhfceblbllaaDoor
open Go.RowKit
set_option maxRecDepth 100000

/-- What a page's reading tells. -/
def PrTo (d : Dk) (number : Int) (w : World) (e : Ending) (w' : World) : Prop := ∃ v, e = .returned (.tuple #[.int .i64 (d.prK number), v, errV (d.prE number)]) ∧ OwnB w' w.heap.size v (d.prL number) ∧ Below w.heap.size w w'
theorem PrTo.bad {d : Dk} {number : Int} {w w' : World} {n : Int} (h : d.prE number = n) (hn : n ≠ 0) (hb : Below w.heap.size w w') : PrTo d number w (.returned (.tuple #[.int .i64 0, .slice none 0 0, .iface 25 (.int .i64 n)])) w' := by
  have h0 : d.prE number ≠ 0 := by rw [h]; exact hn
  exact ⟨_, by unfold Dk.prK; rw [if_neg h0, h, errV_mk hn], by unfold Dk.prL; rw [if_neg h0]; exact OwnB.nil _ _, hb⟩
/-- Every byte of a disk is a byte. -/
def Dk.byte (d : Dk) : Prop := ∀ k, isB (d.look k)
theorem preB_byte {d : Dk} (h : d.byte) (number : Nat) : ∀ k, isB (preB d number k)
  | 0 => isB.nil
  | k + 1 => (preB_byte h number k).append2 (h _)
theorem pre_step {d : Dk} (h : d.ok) (m : Nat) {k : Nat} (hk : k < 8) : spl (preB d m k ++ zB (4096 - 512 * k)) (k * 512) (d.look (m * 8 + k)) = preB d m (k + 1) ++ zB (4096 - 512 * (k + 1)) := by
  have hl := h.look_len (m * 8 + k)
  have e : zB (4096 - 512 * k) = zB 512 ++ zB (4096 - 512 * (k + 1)) := by rw [← zB_add]; congr 1; omega
  rw [e, spl_mid (by rw [zB_len, hl]) (by rw [preB_len h]; omega)]
  show _ = (preB d m k ++ d.look (m * 8 + k)) ++ _
  rw [List.append_assoc]
set_option maxHeartbeats 4000000 in
theorem pr_any {W : World} (P : P12 W) (h g : Nat) (number : Int) (w : World) (B N : Nat) (d : Dk) (hW : Below W.heap.size W w) (h1 : okInt number)
    (hh : w.heap[h]? = some (.cells #[.pointer (some ⟨g, 0, none⟩)] 88)) (hb : BoxAt w B g d N) (hby : d.byte) :
    Calls Tryd.prog 25 #[.pointer (some ⟨h, 0, none⟩), .int .i64 number] w (PrTo d number w) := by
  have HA := Lib.hid (And.intro hb (And.intro hh (And.intro hby (And.intro P hW))))
  have hmany : d.many ≤ 9223372036854775807 := by obtain ⟨-, s, h⟩ := hb; exact h.many
  have HPG := Lib.hid (pages_any h g w B N d (row_cells hh 0) hb)
  have hpg : d.pages = (d.many : Int) / 8 := rfl
  have hok := hb.ok
  unfold okInt at h1
  clear hb hh hby P hW
  by_cases c0 : number < 0
  · have HX := Lib.hid (PrTo.bad (w := w) (show d.prE number = 1 by unfold Dk.prE; rw [if_neg (by omega)]) (by omega) (Below.refl _ _))
    go_enter Tryd.func25, Tryd.ntmps25
    go_wp2_with fail
    go_ret3
    exact HX.out
  by_cases c1 : d.pages ≤ number
  · have HX := Lib.hid (PrTo.bad (w := w) (show d.prE number = 1 by unfold Dk.prE; rw [if_neg (by omega)]) (by omega) (Below.refl _ _))
    go_enter Tryd.func25, Tryd.ntmps25
    go_wp2_with fail
    refine HPG.out.mono ?_
    rintro e w' ⟨rfl, rfl⟩
    go_wp2_with fail
    go_ret3
    exact HX.out
  obtain ⟨m, rfl⟩ := Int.eq_ofNat_of_zero_le (show 0 ≤ number by omega)
  have hm60 : (m : Int) ≤ 1152921504606846975 := by omega
  have HE : Hid (d.prE (m : Int) = if d.down then 5 else openE (pgB d m) (m : Int)) := Lib.hid (by unfold Dk.prE; rw [if_pos ⟨by omega, by omega⟩, Int.toNat_natCast])
  have hmk : ∀ w : World, (Instr.makeSlice 22 (.int .i64 4096) (.int .i64 4096)).run Tryd.prog w = .ok (.slice (some ⟨w.heap.size, 0, none⟩) 4096 4096) (w.alloc (.cells (zeroV 4096).toArray 5)) := fun w => by have := make_zero 4096 (by omega) w; simpa using this
  go_enter Tryd.func25, Tryd.ntmps25
  go_wp2_with fail
  refine HPG.out.mono ?_
  rintro e w' ⟨rfl, rfl⟩
  go_wp2_with fail
  have F0 : Hid (FullAt (w.alloc (.cells (zeroV 4096).toArray 5)) w.heap.size (preB d m 0 ++ zB (4096 - 512 * 0))) := Lib.hid (by unfold FullAt; rw [show preB d m 0 ++ zB (4096 - 512 * 0) = List.replicate 4096 0 from rfl, ← zeroV_bt]; exact heap_alloc_new w _)
  have B0 := Lib.hid (below1 w (.cells (zeroV 4096).toArray 5))
  go_loopw [8, 9, 10, 24] (fun _ _ _ i wr => ∃ k : Nat, k ≤ 8 ∧ i = .int .i64 (k : Int) ∧ Hid (FullAt wr w.heap.size (preB d m k ++ zB (4096 - 512 * k)) ∧ Below w.heap.size w wr ∧ (1 ≤ k → d.down = false))) (fun _ _ _ i _ => 8 - (intOf i).toNat)
  case atStart => exact ⟨0, by omega, rfl, F0.out, B0.out, fun h => by omega⟩
  case round =>
    obtain ⟨k, hk, rfl, HK⟩ := hrel
    replace HK := Lib.hid HK
    by_cases hlt : k < 8
    · have HS := Lib.hid (sectorP_any (m : Int) k wr (by omega) hm60 (by omega) (by omega))
      have HH := Lib.hid ((HK.out.2.1.block _ (lt_of_block HA.out.2.1)).trans HA.out.2.1)
      have HR := Lib.hid (dread_any h g ((m : Int) * 8 + k) wr B N d (by unfold okInt; omega) (row_cells HH.out 0) (HA.out.1.then_ HK.out.2.1))
      have hre : d.readE ((m : Int) * 8 + k) = if d.down then 5 else 0 := by unfold Dk.readE; rw [if_pos (show 0 ≤ (m : Int) * 8 + k ∧ (m : Int) * 8 + k < d.many by omega)]
      have hnat : ((m : Int) * 8 + k).toNat = m * 8 + k := by omega
      unfold ReadAt at HR
      rw [hre, hnat] at HR
      clear hre hnat
      cases hdn : d.down
      · rw [hdn, if_neg (by simp), errV_zero] at HR
        go_wp2_with fail
        refine HS.out.mono ?_
        rintro e w' ⟨rfl, rfl⟩
        go_wp2_with fail
        refine HR.out.mono ?_
        rintro e w2 ⟨v, rfl, -, hv, hb2⟩
        obtain ⟨g2, c2, rfl, hg2, hg2'⟩ := (hv trivial).form
        rw [hok.look_len]
        have HV := Lib.hid (And.intro (hv trivial) hb2)
        clear hv hb2
        have hgl := HK.out.2.1.size
        have HP := Lib.hid (pre_step hok m hlt)
        have hLn : (preB d m k ++ zB (4096 - 512 * k)).length = 4096 := by rw [List.length_append, preB_len hok, zB_len]; omega
        have HLn := Lib.hid hLn
        clear hLn
        go_wp2_with (show wpList _ _ _ (⟨some 43, _, _, _, _, _⟩ :: _) _ _; refine cpF (o := ⟨some 43, _, _, _, _, _⟩) rfl (.tmp 41) (.tmp 42) rfl w.heap.size (k * 512) (4096 - k * 512) (4096 - k * 512) _ (HK.out.1.then_ HV.out.2) rfl (some ⟨g2, 0, none⟩) 512 c2 (d.look (m * 8 + k)) rfl (hok.look_len _) (by omega) (OwnB.row HV.out.1.1) (by rw [HLn.out]; omega) w.heap.size w (HK.out.2.1.trans (HV.out.2.mono hgl)) (Nat.le_refl _) ?_; intro w5 f5 b5; have B5 := Lib.hid b5; clear b5)
        go_roundw
        case rel => exact ⟨k + 1, by omega, by go_num, by rw [← HP.out]; exact f5.out, B5.out, fun _ => by first | exact hdn | trivial⟩
        case measure => simp [intOf]; omega
      · rw [hdn, if_pos rfl, errV_mk (by omega)] at HR
        have HX := Lib.hid (fun wx hb => PrTo.bad (w := w) (w' := wx) (show d.prE (m : Int) = 5 by rw [HE.out, hdn]; rfl) (by omega) hb)
        go_wp2_with fail
        refine HS.out.mono ?_
        rintro e w' ⟨rfl, rfl⟩
        go_wp2_with fail
        refine HR.out.mono ?_
        rintro e w2 ⟨v, rfl, hv, -, hb2⟩
        have HB2 := Lib.hid (HK.out.2.1.trans (hb2.mono HK.out.2.1.size))
        clear hv hb2
        go_wp2_with fail
        go_ret3
        exact HX.out _ HB2.out
    · have hk8 : k = 8 := by omega
      subst hk8
      have hdn := HK.out.2.2 (by omega)
      have hf : FullAt wr w.heap.size (pgB d m) := by
        have := HK.out.1
        rw [show preB d m 8 ++ zB (4096 - 512 * 8) = pgB d m ++ [] from rfl, List.append_nil] at this
        exact this
      have HE2 : Hid (d.prE (m : Int) = openE (pgB d m) (m : Int)) := Lib.hid (by rw [HE.out, hdn]; rfl)
      have HO := Lib.hid (HA.out.2.2.2.1.opens (m : Int) (some ⟨w.heap.size, 0, none⟩) 4096 4096 (pgB d m) wr (HA.out.2.2.2.2.trans (HK.out.2.1.mono HA.out.2.2.2.2.size)) (by unfold okInt; omega) hf.inB (preB_byte HA.out.2.2.1 m 8) (pgB_len hok m) (Nat.le_refl _) (by decide) (fun e => by cases e))
      have HKD := Lib.hid (show d.prE (m : Int) = 0 → d.prK (m : Int) = openK (pgB d m) (m : Int) ∧ d.prL (m : Int) = openL (pgB d m) (m : Int) from fun h0 => ⟨by unfold Dk.prK; rw [if_pos h0, Int.toNat_natCast], by unfold Dk.prL; rw [if_pos h0, Int.toNat_natCast]⟩)
      unfold OpenTo at HO
      clear hf hdn
      generalize openE (pgB d m) (m : Int) = oe at HE2 HO
      generalize openK (pgB d m) (m : Int) = ok at HO HKD
      generalize openL (pgB d m) (m : Int) = ol at HO HKD
      go_wp2_with fail
      refine HO.out.mono ?_
      rintro e w2 ⟨v, rfl, ho, hb2⟩
      have HB2 := Lib.hid (HK.out.2.1.trans (hb2.mono HK.out.2.1.size))
      have HOW := Lib.hid (ho.base HK.out.2.1.size)
      clear ho hb2
      by_cases he : oe = 0
      · subst he
        have HF : Hid (PrTo d (m : Int) w (.returned (.tuple #[.int .i64 ok, v, .nilIface])) w2) := Lib.hid ⟨v, by rw [HE2.out, (HKD.out HE2.out).1, errV_zero], by rw [(HKD.out HE2.out).2]; exact HOW.out, HB2.out⟩
        go_wp2_with fail
        go_ret3
        exact HF.out
      · have q : (oe != 0) = true := by simp [he]
        have HF := Lib.hid (PrTo.bad (w := w) HE2.out he HB2.out)
        go_wp2_with fail
        go_ret3
        exact HF.out
end Go.Proofs.YtlpnhfceblbllaaDoor
