/- A page's bytes, as plain words. The document's own Make of a page: its contract. No statement is proved here. -/
import Derived.Test.YtonjapphhbhcpaaDoorJ15
namespace Go.Proofs.YtonjapphhbhcpaaDoor
open Go.RowKit
set_option maxRecDepth 100000

/-- What follows a page's sum. -/
def restL (number kind : Int) (body : List Int) : List Int := leB 4 number ++ (leB 1 kind ++ (leB 2 (body.length : Int) ++ (body ++ List.replicate (4085 - body.length) 0)))
def okG (number kind : Int) (n : Nat) : Bool := decide (0 ≤ number ∧ number < 65536) && (decide (1 ≤ kind ∧ kind ≤ 255) && decide (n ≤ 4085))
def pageL (number kind : Int) (body : List Int) : List Int := leB 4 (moreP 0 (restL number kind body)) ++ restL number kind body
def makeL (number kind : Int) (body : List Int) : List Int := if okG number kind body.length then pageL number kind body else []
def makeE (number kind : Int) (n : Nat) : Int := if okG number kind n then 0 else 1
theorem restL_len {number kind : Int} {body : List Int} (h : body.length ≤ 4085) : (restL number kind body).length = 4092 := by
  unfold restL
  simp only [List.length_append, leB_len, List.length_replicate]
  omega
theorem pageL_len {number kind : Int} {body : List Int} (h : body.length ≤ 4085) : (pageL number kind body).length = 4096 := by
  unfold pageL
  rw [List.length_append, leB_len, restL_len h]
theorem okG_yes {number kind : Int} {n : Nat} (h : okG number kind n = true) : 0 ≤ number ∧ number < 65536 ∧ 1 ≤ kind ∧ kind ≤ 255 ∧ n ≤ 4085 := by
  unfold okG at h
  simp at h
  omega
theorem okG_no {number kind : Int} {n : Nat} (h : okG number kind n = false) : number < 0 ∨ 65536 ≤ number ∨ kind < 1 ∨ 255 < kind ∨ 4085 < n := by
  unfold okG at h
  simp at h
  omega
theorem leB_byte (k : Nat) (n : Int) : isB (leB k n) := by
  induction k generalizing n with
  | zero => exact fun b hb => by cases hb
  | succ k ih =>
    intro b hb
    rw [leB] at hb
    rcases List.mem_cons.1 hb with rfl | hb
    · omega
    · exact ih _ b hb
theorem isB.append2 {a b : List Int} (ha : isB a) (hb : isB b) : isB (a ++ b) := fun x hx => by
  rcases List.mem_append.1 hx with h | h
  · exact ha x h
  · exact hb x h
theorem isB_zeros (n : Nat) : isB (List.replicate n 0) := fun b hb => by have := List.eq_of_mem_replicate hb; omega
theorem restL_byte {number kind : Int} {body : List Int} (h : isB body) : isB (restL number kind body) := by
  unfold restL
  exact (leB_byte _ _).append2 ((leB_byte _ _).append2 ((leB_byte _ _).append2 (h.append2 (isB_zeros _))))
theorem pageL_byte {number kind : Int} {body : List Int} (h : isB body) : isB (pageL number kind body) := (leB_byte _ _).append2 (restL_byte h)
theorem numL_ok {n : Int} {s : Nat} (h1 : 1 ≤ s) (h8 : s ≤ 8) (h0 : 0 ≤ n) (hn : n < 256 ^ s) : numL n s = leB s n := by
  have hk : okN n s = true := decide_eq_true ⟨by omega, by omega, h0, by rw [Int.toNat_natCast]; exact Int.ediv_eq_zero_of_lt h0 hn⟩
  rw [numL, hk]
  rfl
end Go.Proofs.YtonjapphhbhcpaaDoor
namespace Go.Proofs.YtonjapphhbhcpaaDoor
open Go.RowKit
set_option maxRecDepth 100000

set_option maxHeartbeats 2000000 in
theorem put_any (v : Value) (l : List Int) (n : Int) (size : Nat) (B : Nat) (w : World) (hv : OwnB w B v l) (hn : okInt n) (h1 : 1 ≤ size) (h8 : size ≤ 8) (hn0 : 0 ≤ n) (hn2 : n < 256 ^ size) (hl : l.length ≤ 1000000) (hB : B ≤ w.heap.size) :
    Calls Tryd.prog 57 #[v, .int .i64 n, .int .i64 (size : Int)] w fun e w' => ∃ v', e = .returned v' ∧ Grew B w w' v v' (l ++ leB size n) := by
  have HN := Lib.hid (refNumber_any n size hn w)
  have HE := Lib.hid (And.intro (numL_ok h1 h8 hn0 hn2) (show numE n size = 0 by unfold numE; rw [show okN n size = true from decide_eq_true ⟨by omega, by omega, hn0, by rw [Int.toNat_natCast]; exact Int.ediv_eq_zero_of_lt hn0 hn2⟩]; rfl))
  have HV := Lib.hid hv
  clear hv hn2
  go_enter Tryd.func57, Tryd.ntmps57
  go_wp2_with (first
    | (go_at_call 59; refine HN.out.mono ?_; rintro e w1 ⟨x, rfl, ho, hb⟩; rw [HE.out.1] at ho; obtain ⟨ax, cx, rfl, hin, hnil, -, -⟩ := ho.shape; rw [leB_len]; have HX := Lib.hid (And.intro hin (And.intro hb hnil)); clear ho hin hb hnil)
    | (at_builtin; refine apR rfl _ _ rfl B v l rfl (HV.out.then_ HX.out.2.1) ax size cx (leB size n) rfl (leB_len _ _) HX.out.1 HX.out.2.2 (by omega) (Nat.le_trans hB HX.out.2.1.size) ?_; intro v' w2 hg2; have G2 := Lib.hid (hg2.pre HX.out.2.1); clear hg2))
  go_ret
  exact ⟨_, rfl, G2.out⟩
theorem moreP_rng0 {l : List Int} (h : isB l) : 0 ≤ moreP 0 l ∧ moreP 0 l ≤ 4294967295 := by
  unfold moreP
  have hm : mayB 0 = true := rfl
  rw [hm]
  have := moreN_lt (s := (0 : Int).toNat) (natL l) (by simp) (natL_byte h)
  simp at this ⊢
  omega
set_option maxHeartbeats 4000000 in
theorem refMake_any (number kind : Int) (la : Option Addr) (n c : Nat) (l : List Int) (w : World) (h1 : okInt number) (h2 : okInt kind) (hin : InB w la l) (hB : isB l) (hn : l.length = n) (hnil : la = none → c = 0 ∧ l = []) :
    Calls Tryd.prog 36 #[.int .i64 number, .int .i64 kind, .slice la n c] w fun e w' => ∃ v, e = .returned (.tuple #[v, .int .i64 (makeE number kind n)]) ∧ OwnB w' w.heap.size v (makeL number kind l) ∧ Below w.heap.size w w' := by
  unfold okInt at h1 h2
  cases ho : okG number kind n
  · have HE : Hid (makeE number kind n = 1 ∧ makeL number kind l = []) := Lib.hid ⟨by unfold makeE; rw [ho]; rfl, by unfold makeL; rw [hn, ho]; rfl⟩
    rw [HE.out.1]
    have hx := okG_no ho
    have HEE : Hid (OwnB w w.heap.size (.slice none 0 0) (makeL number kind l)) := Lib.hid (by rw [HE.out.2]; exact OwnB.nil _ _)
    clear ho hin hB hn hnil HE
    go_enter Tryd.func36, Tryd.ntmps36
    go_wp2_with fail
    all_goals go_ret2
    all_goals exact ⟨_, rfl, HEE.out, Below.refl _ _⟩
  · obtain ⟨a1, a2, a3, a4, a5⟩ := okG_yes ho
    have HE : Hid (makeE number kind n = 0 ∧ makeL number kind l = pageL number kind l) := Lib.hid ⟨by unfold makeE; rw [ho]; rfl, by unfold makeL; rw [hn, ho]; rfl⟩
    rw [HE.out.1]
    have HA := Lib.hid (And.intro hin (And.intro hB (And.intro hn hnil)))
    clear ho hin hB hn hnil
    go_enter Tryd.func36, Tryd.ntmps36
    go_wp2_with fail
    refine (put_any (.slice none 0 0) [] number 4 w.heap.size w (OwnB.nil _ _) (by unfold okInt; omega) (by omega) (by omega) a1 (by omega) (by simp) (Nat.le_refl _)).mono ?_
    rintro e w1 ⟨v1, rfl, hg1⟩
    have G1 := Lib.hid hg1
    clear hg1
    go_wp2_with fail
    refine (put_any v1 _ kind 1 w.heap.size w1 G1.out.own (by unfold okInt; omega) (by omega) (by omega) (by omega) (by omega) (by simp [leB_len]) G1.out.size).mono ?_
    rintro e w2 ⟨v2, rfl, hg2⟩
    have G2 := Lib.hid (G1.out.trans hg2)
    clear hg2
    go_wp2_with fail
    refine (put_any v2 _ (n : Int) 2 w.heap.size w2 G2.out.own (by unfold okInt; omega) (by omega) (by omega) (by omega) (by omega) (by simp [leB_len]) G2.out.size).mono ?_
    rintro e w3 ⟨v3, rfl, hg3⟩
    have G3 := Lib.hid (G2.out.trans hg3)
    clear hg3
    have HB3 := Lib.hid (G3.out.below (OwnB.nil _ _) (Below.refl _ _) (Nat.le_refl _) (Nat.le_refl _))
    go_wp2_with (at_builtin; show wpList _ _ _ (⟨some 41, _, _, _, _, _⟩ :: _) _ _; refine apR rfl (.tmp 39) (.tmp 40) rfl w.heap.size v3 _ rfl G3.out.own la n c l rfl HA.out.2.2.1 (HA.out.1.then_ HB3.out) HA.out.2.2.2 (by simp [leB_len]; omega) G3.out.size ?_; intro v4 w4 hg4; have G4 := Lib.hid (G3.out.trans hg4); clear hg4)
    obtain ⟨L, hL⟩ : ∃ L : List Int, L = [] ++ leB 4 number ++ leB 1 kind ++ leB 2 (n : Int) ++ l := ⟨_, rfl⟩
    have hLl : L.length = 7 + n := by rw [hL]; simp [leB_len, HA.out.2.2.1]; omega
    have HL : Hid (L ++ List.replicate (4085 - n) 0 = restL number kind l ∧ isB L) := Lib.hid ⟨by rw [hL]; unfold restL; rw [HA.out.2.2.1]; simp, by rw [hL]; simp only [List.nil_append]; exact (((leB_byte _ _).append2 (leB_byte _ _)).append2 (leB_byte _ _)).append2 HA.out.2.1⟩
    have HB4 := Lib.hid (G4.out.below (OwnB.nil _ _) (Below.refl _ _) (Nat.le_refl _) (Nat.le_refl _))
    have h4 := G4.out.own
    rw [← hL] at h4
    obtain ⟨a4, c4, rfl, -, -⟩ := h4.shape
    have H4 := Lib.hid h4
    clear hL h4 G1 G2 G3 G4
    rw [hLl] at H4 ⊢
    go_loopw [8] (fun u wr => ∃ (k : Nat) (a : Option Addr) (c : Nat), k ≤ 4085 - n ∧ u = .slice a (7 + n + k) c ∧ Hid (OwnB wr w.heap.size (.slice a (7 + n + k) c) (L ++ List.replicate k 0) ∧ Below w.heap.size w wr)) (fun u _ => match u with | .slice _ m _ => 4092 - m | _ => 0)
    case atStart => exact ⟨0, a4, c4, by omega, rfl, by rw [List.replicate_zero, List.append_nil]; exact H4.out, HB4.out⟩
    case round =>
      obtain ⟨k, a, c, hk, rfl, HK⟩ := hrel
      by_cases hlt : k < 4085 - n
      · go_wp2_with (at_builtin; show wpList _ _ _ (⟨some 47, _, _, _, _, _⟩ :: _) _ _; refine apL _ rfl (.tmp 45) (.tmp 46) rfl w.heap.size _ _ rfl HK.1 [0] _ 1 1 rfl rfl rfl rfl (by rw [List.length_append, List.length_replicate]; omega) HK.2.size ?_; intro v5 w5 hg5; have G5 := Lib.hid hg5; have HB5 := Lib.hid (hg5.below HK.1 HK.2 (Nat.le_refl _) HK.2.size); have hs5 := hg5.own.shape; obtain ⟨a5, c5, rfl, -⟩ := hs5; clear hg5)
        refine ⟨⟨k + 1, a5, c5, by omega, rfl, ?_, HB5.out⟩, by show 4092 - (7 + n + (k + 1)) < 4092 - (7 + n + k); omega⟩
        have h := G5.out.own
        rw [show (L ++ List.replicate k (0 : Int) ++ [0] : List Int).length = 7 + n + (k + 1) by rw [List.length_append, List.length_append, List.length_replicate, hLl]; rfl] at h
        rw [show (L ++ List.replicate (k + 1) 0 : List Int) = L ++ List.replicate k 0 ++ [0] by rw [List.replicate_succ', List.append_assoc]]
        exact h
      · have hke : k = 4085 - n := by omega
        subst hke
        have hr := HK.1
        rw [HL.out.1] at hr
        have e92 : 7 + n + (4085 - n) = 4092 := by omega
        rw [e92] at hr ⊢
        have HR := Lib.hid (And.intro hr HK.2)
        obtain ⟨a', c', es, hin, hnil, -, -⟩ := hr.shape
        injection es with e1 e2 e3
        subst e1 e3
        have HI := Lib.hid (And.intro hin hnil)
        have hlr : (restL number kind l).length = 4092 := restL_len (by rw [HA.out.2.2.1]; omega)
        have HLR := Lib.hid hlr
        clear hin hnil hr hlr e2 HK hk hlt e92
        have HS := Lib.hid (refSum_any a c 4092 (restL number kind l) wr HI.out.1 (restL_byte HA.out.2.1) HLR.out (Nat.le_of_ble_eq_true rfl))
        have HMS := Lib.hid (moreP_rng0 (restL_byte (number := number) (kind := kind) HA.out.2.1))
        generalize hsm : moreP 0 (restL number kind l) = sm at HS HMS
        have HSM := Lib.hid hsm
        clear hsm h1 h2
        go_wp2_with fail
        refine HS.out.mono ?_
        rintro e w6 ⟨rfl, rfl⟩
        have hms := HMS.out
        go_wp2_with fail
        refine (put_any (.slice none 0 0) [] sm 4 wr.heap.size wr (OwnB.nil _ _) (by unfold okInt; omega) (by omega) (by omega) hms.1 (by omega) (by simp) (Nat.le_refl _)).mono ?_
        rintro e w7 ⟨v7, rfl, hg7⟩
        have G7 := Lib.hid hg7
        have HB7 := Lib.hid (hg7.below (OwnB.nil _ _) (Below.refl wr.heap.size wr) (Nat.le_refl _) (Nat.le_refl _))
        clear hg7
        go_wp2_with (at_builtin; show wpList _ _ _ (⟨some 54, _, _, _, _, _⟩ :: _) _ _; refine apR rfl (.tmp 52) (.tmp 53) rfl wr.heap.size v7 _ rfl G7.out.own a 4092 c (restL number kind l) rfl HLR.out (HI.out.1.then_ HB7.out) HI.out.2 (by rw [List.length_append, leB_len]; simp) HB7.out.size ?_; intro v8 w8 hg8; have G8 := Lib.hid hg8; clear hg8)
        have HB8 := Lib.hid (G8.out.below G7.out.own HB7.out (Nat.le_refl _) HB7.out.size)
        go_ret2
        refine ⟨v8, rfl, ?_, HR.out.2.trans (HB8.out.mono HR.out.2.size)⟩
        rw [HE.out.2]
        unfold pageL
        rw [HSM.out]
        have h := G8.out.own.base HR.out.2.size
        rw [List.nil_append] at h
        exact h
end Go.Proofs.YtonjapphhbhcpaaDoor
