/- The calls of the small case, worked out. The small case's works. The greatest of three, worked out; what is no expression. No statement is proved here. -/
import Derived.Test.YtcpbdmgkeljkgaaGreatDoorEWh
import Derived.Test.YtcpbdmgkeljkgaaGreatDoorECh
import Derived.Test.YtcpbdmgkeljkgaaGreatDoorJ3
namespace Go.Proofs.YtcpbdmgkeljkgaaGreatDoor
open Go.RowKit
set_option maxRecDepth 100000

def nAdd : ByteArray := ⟨#[36, 97, 100, 100]⟩
def nMul : ByteArray := ⟨#[36, 109, 117, 108, 116, 105, 112, 108, 121]⟩
def nSub : ByteArray := ⟨#[36, 115, 117, 98, 116, 114, 97, 99, 116]⟩
def nDiv : ByteArray := ⟨#[36, 100, 105, 118, 105, 100, 101]⟩
def nMod : ByteArray := ⟨#[36, 109, 111, 100]⟩
def nMax : ByteArray := ⟨#[36, 109, 97, 120]⟩
def nGt : ByteArray := ⟨#[36, 103, 116]⟩
def nCond : ByteArray := ⟨#[36, 99, 111, 110, 100]⟩
theorem op_add : OpName .add nAdd := ⟨operator_add, by rw [Lib.toList_data]; rfl, by rw [Lib.toList_data]; rfl, by rw [Lib.toList_data]; rfl, by rw [Lib.toList_data]; rfl, by decide⟩
theorem op_mul : OpName .mul nMul := ⟨operator_mul, by rw [Lib.toList_data]; rfl, by rw [Lib.toList_data]; rfl, by rw [Lib.toList_data]; rfl, by rw [Lib.toList_data]; rfl, by decide⟩
theorem op_sub : OpName .sub nSub := ⟨operator_sub, by rw [Lib.toList_data]; rfl, by rw [Lib.toList_data]; rfl, by rw [Lib.toList_data]; rfl, by rw [Lib.toList_data]; rfl, by decide⟩
theorem op_div : OpName .div nDiv := ⟨operator_div, by rw [Lib.toList_data]; rfl, by rw [Lib.toList_data]; rfl, by rw [Lib.toList_data]; rfl, by rw [Lib.toList_data]; rfl, by decide⟩
theorem op_mod : OpName .mod nMod := ⟨operator_mod, by rw [Lib.toList_data]; rfl, by rw [Lib.toList_data]; rfl, by rw [Lib.toList_data]; rfl, by rw [Lib.toList_data]; rfl, by decide⟩
theorem op_max : OpName .max nMax := ⟨operator_max, by rw [Lib.toList_data]; rfl, by rw [Lib.toList_data]; rfl, by rw [Lib.toList_data]; rfl, by rw [Lib.toList_data]; rfl, by decide⟩
theorem op_gt : OpName .gt nGt := ⟨operator_gt, by rw [Lib.toList_data]; rfl, by rw [Lib.toList_data]; rfl, by rw [Lib.toList_data]; rfl, by rw [Lib.toList_data]; rfl, by decide⟩
theorem op_cond : OpName .cond nCond := ⟨operator_cond, by rw [Lib.toList_data]; rfl, by rw [Lib.toList_data]; rfl, by rw [Lib.toList_data]; rfl, by rw [Lib.toList_data]; rfl, by decide⟩
theorem name_add : nameOk nAdd = true := by decide +kernel
theorem name_div : nameOk nDiv = true := by decide +kernel
def sA : ByteArray := ⟨#[36, 97]⟩
def sBig : ByteArray := ⟨#[98, 105, 103]⟩
def sD : ByteArray := ⟨#[36]⟩
theorem way_a : sA.extract 1 sA.size = ⟨#[97]⟩ := by decide +kernel
theorem ok_a : splitOk ⟨#[97]⟩ = true := by decide +kernel
theorem split_a : splitP ⟨#[97]⟩ = [⟨#[97]⟩] := by decide +kernel
theorem no_d : splitOk ⟨#[]⟩ = false := by decide +kernel
theorem reads_a (gd dc : Nat) {m : Int} (hm : in64 m) : Reads (oneDoc gd dc ⟨#[97]⟩ m) (txtT sA) 0 (fun r => r = intT m) 0 :=
  reads_field gd dc ⟨#[97]⟩ m hm sA (by decide) (by decide) (by decide) (by decide) (by rw [way_a]; exact ok_a) (by rw [way_a]; exact split_a)
theorem tidy_eq {l l' : List T} (h : l'.map T.val = l.map T.val) (ht : ∀ x ∈ l', x.tidy) (hf : ∀ x ∈ l, ∃ k n s, x = .mk k n s none 0 [] none 0 []) : l' = l := by
  induction l generalizing l' with
  | nil => simpa using h
  | cons x r ih =>
    match l', h with
    | y :: r', h =>
      simp only [List.map_cons] at h
      injection h with h1 h2
      obtain ⟨k, n, s, hx⟩ := hf x (by simp)
      have e : y = x := by rw [hx]; exact T.tidy_flat (ht y (by simp)) (by rw [h1, hx, T.val_mk]; rfl)
      rw [e, ih h2 (fun z hz => ht z (by simp [hz])) (fun z hz => hf z (by simp [hz]))]
theorem reads_num (d : T) {n : Int} (hn : in64 n) : Reads d (intT n) 0 (fun r => r = intT n) 0 := reads_plain d (intT n) (intT_ok hn) (by intro k m s la lc l da dc f h; unfold intT at h; injection h with h; subst h; decide)
theorem six5 : in64 5 := by decide
theorem in1 : in64 1 := by decide
theorem in0 : in64 0 := by decide
theorem in3 : in64 3 := by decide
/-- A field and a number. -/
def rdsA (n : Int) : List Rd := [⟨txtT sA, 0, fun r => r = intT 5, 0⟩, rdI n]
theorem rdsA_reads (gd dc : Nat) {n : Int} (hn : in64 n) : ∀ r ∈ rdsA n, Reads (oneDoc gd dc ⟨#[97]⟩ 5) r.t r.k r.R r.err := by
  intro r hr
  rcases List.mem_cons.1 hr with rfl | hr
  · exact reads_a gd dc six5
  · rw [List.mem_singleton.1 hr]; exact reads_num _ hn
theorem reads_add (gd gc : Nat) (da : Option Addr) (dc : Nat) (la : Option Addr) (lc : Nat) : Reads (oneDoc gd gc ⟨#[97]⟩ 5) (callT nAdd da dc la lc [txtT sA, intT 1]) 2 (fun r => r = intT 6) 0 := by
  refine reads_call _ op_add (rdsA 1) rfl (rdsA_reads gd gc in1) (fun _ r hr => by rw [hr]; exact intT_size 6) (fun h => absurd rfl h) (fun B W u x ga c ns h1 h2 h3 => ?_) da dc la lc
  have := op2 (o := .add) rfl six5 in1 B W u x ga c ns h1 h2 (fun i a' r e1 e2 => by
    match i, e2 with
    | 0, e2 => simp at e2; subst e2; exact h3 0 a' ⟨txtT sA, 0, fun r => r = intT 5, 0⟩ e1 rfl
    | 1, e2 => simp at e2; subst e2; exact h3 1 a' _ e1 rfl)
  have e1 : vO .add 5 1 = intT 6 := rfl
  have e2 : eO .add 5 1 = 0 := rfl
  rw [e1, e2] at this
  exact this
theorem gt_op {d : T} {a b : Int} (ha : in64 a) (hb : in64 b) (B : Nat) (W : World) (u : TypeId) (x : Value) (ga c : Nat) (ns : List (TypeId × Value)) (hop : OpAt B W .gt (.iface u x)) (hlen : ns.length = 2)
    (hE : ∀ (i : Nat) (a' : TypeId × Value) (r : Rd), ns[i]? = some a' → [rdI a, rdI b][i]? = some r → Ev W d a'.1 a'.2 r.k r.R r.err ∧ W.cell? ⟨ga, i, none⟩ = some (.iface a'.1 a'.2)) : OpTo W d u x ga 2 c 2 (fun r => r = truT (decide (b < a))) 0 := by
  obtain ⟨p, q, rfl⟩ := two_ns hlen
  obtain ⟨e1, c1⟩ := hE 0 p (rdI a) rfl rfl
  obtain ⟨e2, c2⟩ := hE 1 q (rdI b) rfl rfl
  obtain ⟨gp, -, hv, hrow⟩ := hop
  injection hv with hv1 hv2
  subst hv1 hv2
  have hl : TwoN [⟨p.1, p.2, 0, fun r => r = intT a⟩, ⟨q.1, q.2, 0, fun r => r = intT b⟩] a b := ⟨_, _, rfl, fun r h => h, fun r h => h⟩
  have := eager_op (W := W) (d := d) (least := 2) (more := false) (gM := 102) (caps := #[.pointer (some ⟨gp, 0, none⟩)]) [⟨p.1, p.2, 0, fun r => r = intT a⟩, ⟨q.1, q.2, 0, fun r => r = intT b⟩] (by simp) (by simp) (by
      intro n hn
      rcases List.mem_cons.1 hn with rfl | hn
      · exact e1
      · rw [List.mem_singleton.1 hn]; exact e2) ga c (by
      intro i n hn
      match i, hn with
      | 0, hn => simp at hn; subst hn; exact c1
      | 1, hn => simp at hn; subst hn; exact c2) (fun args w => by kernel_rfl) (gt_made ha hb hl hrow)
  exact this
theorem truT_size (b : Bool) : sizeV (truT b).val ≤ 65536 := by cases b <;> decide +kernel
theorem reads_gt (gd gc : Nat) (da : Option Addr) (dc : Nat) (la : Option Addr) (lc : Nat) : Reads (oneDoc gd gc ⟨#[97]⟩ 5) (callT nGt da dc la lc [txtT sA, intT 3]) 2 (fun r => r = truT true) 0 := by
  refine reads_call _ op_gt (rdsA 3) rfl (rdsA_reads gd gc in3) (fun _ r hr => by rw [hr]; exact truT_size _) (fun h => absurd rfl h) (fun B W u x ga c ns h1 h2 h3 => ?_) da dc la lc
  have := gt_op six5 in3 B W u x ga c ns h1 h2 (fun i a' r e1 e2 => by
    match i, e2 with
    | 0, e2 => simp at e2; subst e2; exact h3 0 a' ⟨txtT sA, 0, fun r => r = intT 5, 0⟩ e1 rfl
    | 1, e2 => simp at e2; subst e2; exact h3 1 a' _ e1 rfl)
  exact this
theorem reads_big (d : T) : Reads d (txtT sBig) 0 (fun r => r = txtT sBig) 0 := reads_word d (by unfold okLen; decide) (by decide) (by decide)
def rdsC (gda gdc gla glc : Nat) (tg td : T) : List Rd := [⟨tg, 2, fun r => r = truT true, 0⟩, ⟨txtT sBig, 0, fun r => r = txtT sBig, 0⟩, ⟨td, 2, fun r => r = vO .div 1 0, eO .div 1 0⟩]
theorem reads_cond (gd gc : Nat) {tg td : T} (hg : Reads (oneDoc gd gc ⟨#[97]⟩ 5) tg 2 (fun r => r = truT true) 0) (hd : Reads (oneDoc gd gc ⟨#[97]⟩ 5) td 2 (fun r => r = vO .div 1 0) (eO .div 1 0)) (da : Option Addr) (dc : Nat) (la : Option Addr) (lc : Nat) :
    Reads (oneDoc gd gc ⟨#[97]⟩ 5) (callT nCond da dc la lc [tg, txtT sBig, td]) 4 (fun r => r = txtT sBig) 0 := by
  refine reads_call _ op_cond (rdsC 0 0 0 0 tg td) rfl ?_ (fun _ r hr => by rw [hr]; decide +kernel) (fun h => absurd rfl h) (fun B W u x ga c ns h1 h2 h3 => ?_) da dc la lc
  · intro r hr
    rcases List.mem_cons.1 hr with rfl | hr
    · exact hg
    · rcases List.mem_cons.1 hr with rfl | hr
      · exact reads_big _
      · rw [List.mem_singleton.1 hr]; exact hd
  · match ns, h2 with
    | [p, q, s], _ =>
      obtain ⟨e1, c1⟩ := h3 0 p _ rfl rfl
      obtain ⟨e2, c2⟩ := h3 1 q _ rfl rfl
      have hv : Value.iface u x = .iface 142 (.agg #[.int .i64 3, .bool false]) := h1
      injection hv with hv1 hv2
      subst hv1 hv2
      exact choice_op (a := ⟨p.1, p.2, 2, fun r => r = truT true⟩) (b := ⟨q.1, q.2, 0, fun r => r = txtT sBig⟩) e1 (fun r h => h) e2 (fun r h => by rw [h]; decide) ga c c1 c2
end Go.Proofs.YtcpbdmgkeljkgaaGreatDoor
namespace Go.Proofs.YtcpbdmgkeljkgaaGreatDoor
open Go.RowKit
set_option maxRecDepth 100000

theorem work_val {d t v : T} (hd : d.ok) (ok : t.ok) (hr : rightOf t.val = 0) {k : Nat} (hk : k + 1 ≤ 20000) (hv : ∃ k n s, v = .mk k n s none 0 [] none 0 []) (H : ∀ t' : T, t'.val = t.val → t'.tidy → t'.ok → Reads d t' k (fun r => r = v) 0) (w : World) (hin : t.In w) (hind : d.In w) (henv : EnvR w) :
    Calls Tryz.prog 7 #[t.arg, d.arg] w fun e w' => e = .returned (.tuple #[v.arg, .int .i64 0]) ∧ Below w.heap.size w w' := by
  refine (Work_any hd ok hr hk H w hin hind henv).mono ?_
  rintro e w' ⟨hb', ⟨-, r, r', rfl, rfl, hv', htd, -, -, -⟩ | ⟨he, rfl⟩⟩
  · obtain ⟨k, n, s, hs⟩ := hv
    have e1 : r' = r := by rw [hs]; exact T.tidy_flat htd (by rw [hv', hs, T.val_mk]; rfl)
    exact ⟨by rw [e1], hb'⟩
  · exact absurd rfl he
theorem oneDoc_ok (g : Nat) {p : ByteArray} (hp : okLen p.size) {m : Int} (hm : in64 m) : (oneDoc g 1 p m).ok := by
  have h0 : (ByteArray.mk #[]).size = 0 := rfl
  unfold in64 at hm
  simp only [oneDoc, intT, T.ok, T.okL, T.okD, okInt, okLen, okFar, h0, List.length_nil, List.length_cons] at hp ⊢
  refine ⟨by omega, by omega, by omega, by omega, by omega, by simp, by omega, by omega, by simp, trivial, hp, ⟨by omega, by omega, by omega, by omega, by omega, by simp, by omega, by omega, by simp, trivial, trivial⟩, trivial⟩
theorem work_add (gd g : Nat) (la : Option Addr) (lc : Nat) (hlc : 2 ≤ lc ∧ lc ≤ 1000) (hla : la = none → lc = 0) (w : World) (hin : (callT nAdd (some ⟨g, 0, none⟩) 1 la lc [txtT sA, intT 1]).In w) (hind : (oneDoc gd 1 ⟨#[97]⟩ 5).In w) (henv : EnvR w) :
    Calls Tryz.prog 7 #[(callT nAdd (some ⟨g, 0, none⟩) 1 la lc [txtT sA, intT 1]).arg, (oneDoc gd 1 ⟨#[97]⟩ 5).arg] w fun e w' => e = .returned (.tuple #[(intT 6).arg, .int .i64 0]) ∧ Below w.heap.size w w' := by
  refine work_val (oneDoc_ok gd (by unfold okLen; decide) six5) (callT_ok (by unfold okLen; decide) ?_ hlc hla) ?_ (k := 2) (by omega) ⟨3, 6, _, rfl⟩ ?_ w hin hind henv
  · intro x hx
    rcases List.mem_cons.1 hx with rfl | hx
    · exact txtT_ok (by unfold okLen; decide)
    · rw [List.mem_singleton.1 hx]; exact intT_ok in1
  · simp only [callT, T.val_mk, intT, txtT, List.map_cons, List.map_nil]
    decide +kernel
  · intro t' hv htd hok'
    obtain ⟨da', dc', la', lc', l', rfl, hl, htl, -⟩ := callT_inv hv htd hok'
    have e1 := tidy_eq hl htl (by
      intro x hx
      rcases List.mem_cons.1 hx with rfl | hx
      · exact ⟨4, 0, sA, rfl⟩
      · rw [List.mem_singleton.1 hx]; exact ⟨3, 1, _, rfl⟩)
    subst e1
    exact reads_add gd 1 _ _ _ _
theorem work_cond (gd g g1 g2 : Nat) (la l1 l2 : Option Addr) (lc c1 c2 : Nat) (hlc : 3 ≤ lc ∧ lc ≤ 1000) (hla : la = none → lc = 0) (hlc1 : 2 ≤ c1 ∧ c1 ≤ 1000) (hl1 : l1 = none → c1 = 0) (hlc2 : 2 ≤ c2 ∧ c2 ≤ 1000) (hl2 : l2 = none → c2 = 0) (w : World)
    (hin : (callT nCond (some ⟨g, 0, none⟩) 1 la lc [callT nGt (some ⟨g1, 0, none⟩) 1 l1 c1 [txtT sA, intT 3], txtT sBig, callT nDiv (some ⟨g2, 0, none⟩) 1 l2 c2 [intT 1, intT 0]]).In w) (hind : (oneDoc gd 1 ⟨#[97]⟩ 5).In w) (henv : EnvR w) :
    Calls Tryz.prog 7 #[(callT nCond (some ⟨g, 0, none⟩) 1 la lc [callT nGt (some ⟨g1, 0, none⟩) 1 l1 c1 [txtT sA, intT 3], txtT sBig, callT nDiv (some ⟨g2, 0, none⟩) 1 l2 c2 [intT 1, intT 0]]).arg, (oneDoc gd 1 ⟨#[97]⟩ 5).arg] w fun e w' => e = .returned (.tuple #[(txtT sBig).arg, .int .i64 0]) ∧ Below w.heap.size w w' := by
  refine work_val (oneDoc_ok gd (by unfold okLen; decide) six5) (callT_ok (by unfold okLen; decide) ?_ hlc hla) ?_ (k := 4) (by omega) ⟨4, 0, sBig, rfl⟩ ?_ w hin hind henv
  · intro x hx
    simp only [List.mem_cons, List.not_mem_nil, or_false] at hx
    rcases hx with rfl | rfl | rfl
    · refine callT_ok (by unfold okLen; decide) ?_ hlc1 hl1
      intro x hx
      rcases List.mem_cons.1 hx with rfl | hx
      · exact txtT_ok (by unfold okLen; decide)
      · rw [List.mem_singleton.1 hx]; exact intT_ok in3
    · exact txtT_ok (by unfold okLen; decide)
    · refine callT_ok (by unfold okLen; decide) ?_ hlc2 hl2
      intro x hx
      rcases List.mem_cons.1 hx with rfl | hx
      · exact intT_ok in1
      · rw [List.mem_singleton.1 hx]; exact intT_ok in0
  · simp only [callT, T.val_mk, intT, txtT, List.map_cons, List.map_nil]
    decide +kernel
  · intro t' hv htd hok'
    obtain ⟨da', dc', la', lc', l', rfl, hl, htl, hol⟩ := callT_inv hv htd hok'
    obtain ⟨x, y, z, rfl⟩ : ∃ x y z, l' = [x, y, z] := by
      match l', (show l'.length = 3 by simpa using congrArg List.length hl) with
      | [x, y, z], _ => exact ⟨x, y, z, rfl⟩
    simp only [List.map_cons, List.map_nil] at hl
    injection hl with hx hl
    injection hl with hy hl
    injection hl with hz _
    have ey : y = txtT sBig := T.tidy_flat (htl y (by simp)) (by rw [hy]; rfl)
    obtain ⟨d1, dc1, la1, lc1, m1, rfl, hm1, ht1, -⟩ := callT_inv hx (htl x (by simp)) (hol x (by simp))
    obtain ⟨d2, dc2, la2, lc2, m2, rfl, hm2, ht2, -⟩ := callT_inv hz (htl z (by simp)) (hol z (by simp))
    have e1 := tidy_eq hm1 ht1 (by
      intro x hx
      rcases List.mem_cons.1 hx with rfl | hx
      · exact ⟨4, 0, sA, rfl⟩
      · rw [List.mem_singleton.1 hx]; exact ⟨3, 3, _, rfl⟩)
    have e2 := tidy_eq hm2 ht2 (by
      intro x hx
      rcases List.mem_cons.1 hx with rfl | hx
      · exact ⟨3, 1, _, rfl⟩
      · rw [List.mem_singleton.1 hx]; exact ⟨3, 0, _, rfl⟩)
    subst e1 e2 ey
    exact reads_cond gd 1 (reads_gt gd 1 _ _ _ _) (reads2 rfl in1 in0 op_div _ _ _ _) _ _ _ _
end Go.Proofs.YtcpbdmgkeljkgaaGreatDoor
namespace Go.Proofs.YtcpbdmgkeljkgaaGreatDoor
open Go.RowKit
set_option maxRecDepth 100000

theorem three_ns {ns : List (TypeId × Value)} (h : ns.length = 3) : ∃ p q s, ns = [p, q, s] := by
  match ns, h with
  | [p, q, s], _ => exact ⟨p, q, s, rfl⟩
theorem max_op {d : T} {a b c : Int} (ha : in64 a) (hb : in64 b) (hc : in64 c) (B : Nat) (W : World) (u : TypeId) (x : Value) (ga cc : Nat) (ns : List (TypeId × Value)) (hop : OpAt B W .max (.iface u x)) (hlen : ns.length = 3)
    (hE : ∀ (i : Nat) (a' : TypeId × Value) (r : Rd), ns[i]? = some a' → [rdI a, rdI b, rdI c][i]? = some r → Ev W d a'.1 a'.2 r.k r.R r.err ∧ W.cell? ⟨ga, i, none⟩ = some (.iface a'.1 a'.2)) : OpTo W d u x ga 3 cc 3 (fun r => r = intT (mxK [a, b, c] 2)) 0 := by
  obtain ⟨p, q, s, rfl⟩ := three_ns hlen
  obtain ⟨e1, c1⟩ := hE 0 p (rdI a) rfl rfl
  obtain ⟨e2, c2⟩ := hE 1 q (rdI b) rfl rfl
  obtain ⟨e3, c3⟩ := hE 2 s (rdI c) rfl rfl
  have hv : Value.iface u x = eOp 1 true (fOf 97) := hop
  injection hv with hv1 hv2
  subst hv1 hv2
  have hl : NumsN [⟨p.1, p.2, 0, fun r => r = intT a⟩, ⟨q.1, q.2, 0, fun r => r = intT b⟩, ⟨s.1, s.2, 0, fun r => r = intT c⟩] [a, b, c] := ⟨rfl, fun i x n hx hn r hr => by
    match i, hx, hn with
    | 0, hx, hn => simp at hx hn; subst hx hn; exact hr
    | 1, hx, hn => simp at hx hn; subst hx hn; exact hr
    | 2, hx, hn => simp at hx hn; subst hx hn; exact hr⟩
  have := eager_op (W := W) (d := d) (least := 1) (more := true) (gM := 97) (caps := #[]) [⟨p.1, p.2, 0, fun r => r = intT a⟩, ⟨q.1, q.2, 0, fun r => r = intT b⟩, ⟨s.1, s.2, 0, fun r => r = intT c⟩] (by simp) (by simp) (by
      intro n hn
      simp only [List.mem_cons, List.not_mem_nil, or_false] at hn
      rcases hn with rfl | rfl | rfl
      · exact e1
      · exact e2
      · exact e3) ga cc (by
      intro i n hn
      match i, hn with
      | 0, hn => simp at hn; subst hn; exact c1
      | 1, hn => simp at hn; subst hn; exact c2
      | 2, hn => simp at hn; subst hn; exact c3) (fun args w => by kernel_rfl) (max_made (ns := [a, b, c]) (by
      intro n hn
      simp only [List.mem_cons, List.not_mem_nil, or_false] at hn
      rcases hn with rfl | rfl | rfl <;> assumption) (by simp) (by simp) hl)
  exact this
theorem right3 (name : ByteArray) (hn : nameOk name = true) (hs : name.size ≤ 20) (da : Option Addr) (dc : Nat) (la : Option Addr) (lc : Nat) (a b c : Int) : rightOf (callT name da dc la lc [intT a, intT b, intT c]).val = 0 := by
  simp only [callT, T.val_mk, intT, List.map_cons, List.map_nil]
  have hsz : szFrom 0 (.mk 5 0 ⟨#[]⟩ [] [(name, .mk 6 0 ⟨#[]⟩ [.mk 3 a ⟨#[]⟩ [] [], .mk 3 b ⟨#[]⟩ [] [], .mk 3 c ⟨#[]⟩ [] []] [])]) = 5 + 2 + name.size + 5 + 2 + 1 + 8 + 2 + 1 + 8 + 2 + 1 + 8 := by
    simp [szFrom, szD, szL, digN]
    omega
  unfold rightOf sizeV
  rw [hsz, if_neg (by split <;> omega)]
  simp [rightV, rightD, rightL, aloneV, fitsV, hn]
theorem name_max : nameOk nMax = true := by decide +kernel
theorem mx3_in {a b c : Int} (ha : in64 a) (hb : in64 b) (hc : in64 c) : in64 (mxK [a, b, c] 2) := mxK_in (ns := [a, b, c]) (by
      intro n hn
      simp only [List.mem_cons, List.not_mem_nil, or_false] at hn
      rcases hn with rfl | rfl | rfl <;> assumption) 2 (by simp)
theorem work_max {a b c : Int} (ha : in64 a) (hb : in64 b) (hc : in64 c) (g : Nat) (la : Option Addr) (lc : Nat) (hlc : 3 ≤ lc ∧ lc ≤ 1000) (hla : la = none → lc = 0) (w : World) (hin : (callT nMax (some ⟨g, 0, none⟩) 1 la lc [intT a, intT b, intT c]).In w) (henv : EnvR w) :
    Calls Tryz.prog 7 #[(callT nMax (some ⟨g, 0, none⟩) 1 la lc [intT a, intT b, intT c]).arg, voidT.arg] w fun e w' => e = .returned (.tuple #[(intT (mxK [a, b, c] 2)).arg, .int .i64 0]) ∧ Below w.heap.size w w' := by
  refine work_val voidT_ok (callT_ok (by unfold okLen; decide) ?_ hlc hla) (right3 _ name_max (by decide) _ _ _ _ _ _ _) (k := 3) (by omega) ⟨3, _, _, rfl⟩ ?_ w hin (voidT_in w) henv
  · intro x hx
    simp only [List.mem_cons, List.not_mem_nil, or_false] at hx
    rcases hx with rfl | rfl | rfl
    · exact intT_ok ha
    · exact intT_ok hb
    · exact intT_ok hc
  · intro t' hv htd hok'
    obtain ⟨da', dc', la', lc', l', rfl, hl, htl, -⟩ := callT_inv hv htd hok'
    have e1 := tidy_eq hl htl (by
      intro x hx
      simp only [List.mem_cons, List.not_mem_nil, or_false] at hx
      rcases hx with rfl | rfl | rfl
      · exact ⟨3, a, _, rfl⟩
      · exact ⟨3, b, _, rfl⟩
      · exact ⟨3, c, _, rfl⟩)
    subst e1
    refine reads_call _ op_max [rdI a, rdI b, rdI c] rfl ?_ (fun _ r hr => by rw [hr]; exact intT_size _) (fun h => absurd rfl h) (fun B W u x ga c' ns h1 h2 h3 => max_op ha hb hc B W u x ga c' ns h1 h2 h3) _ _ _ _
    intro r hr
    simp only [List.mem_cons, List.not_mem_nil, or_false] at hr
    rcases hr with rfl | rfl | rfl
    · exact reads_num _ ha
    · exact reads_num _ hb
    · exact reads_num _ hc
set_option maxHeartbeats 4000000 in
/-- What is no expression. -/
theorem Work_nil {d t : T} (ok : t.ok) (hr : rightOf t.val = 0) (H : ∀ t' : T, t'.val = t.val → t'.tidy → t'.ok → ∀ (w : World) (gs : Nat), EnvR w → ScopeAt w gs → t'.In w → Calls Tryz.prog 16 #[t'.arg, .slice (some ⟨gs, 0, none⟩) 1 1] w fun e w' => e = .returned .nilIface ∧ Below w.heap.size w w') (w : World) (hin : t.In w) (henv : EnvR w) :
    Calls Tryz.prog 7 #[t.arg, d.arg] w fun e w' => e = .returned (.tuple #[voidT.arg, .int .i64 50]) ∧ Below w.heap.size w w' := by
  have HP := Lib.hid (fun (W : World) (hb : Below w.heap.size w W) => parse_nil t ok hr H W (hin.then_ hb) (henv.then_ hb))
  obtain ⟨tk, tn, ts, tla, tlc, tl, tda, tdc, tf⟩ := t
  obtain ⟨dk, dn, ds, dla, dlc, dl, dda, ddc, df⟩ := d
  rw [show voidT.arg = .agg #[.int .i64 0, .int .i64 0, .string ⟨#[]⟩, .slice none 0 0, .slice none 0 0] from rfl]
  dsimp only [T.arg, T.cells] at HP ⊢
  clear H henv hin ok hr
  obtain ⟨U, hU⟩ : ∃ U, ((w.alloc (.cells #[.int .i64 tk, .int .i64 tn, .string ts, .slice tla tl.length tlc, .slice tda tf.length tdc] 28)).alloc (.cells #[.int .i64 dk, .int .i64 dn, .string ds, .slice dla dl.length dlc, .slice dda df.length ddc] 28)).alloc (.cells #[.int .i64 0, .int .i64 0, .string ⟨#[]⟩, .slice none 0 0, .slice none 0 0] 28) = U := ⟨_, rfl⟩
  have bU : Below w.heap.size w U := by rw [← hU]; exact below3 _ _ _ _
  have r2 : U.heap[w.heap.size + 1 + 1]? = some (box 0 0) := by
    rw [← hU]
    have h1 := heap_alloc_new ((w.alloc (.cells #[.int .i64 tk, .int .i64 tn, .string ts, .slice tla tl.length tlc, .slice tda tf.length tdc] 28)).alloc (.cells #[.int .i64 dk, .int .i64 dn, .string ds, .slice dla dl.length dlc, .slice dda df.length ddc] 28)) (box 0 0)
    rw [World.size_alloc, World.size_alloc] at h1
    exact h1
  have HU := Lib.hid (And.intro hU (And.intro bU r2))
  have HPU := Lib.hid (HP.out U bU)
  clear hU bU r2 HP
  go_enter Tryz.func7, Tryz.ntmps7
  go_wp2_with fail
  rw [HU.out.1]
  refine HPU.out.mono ?_
  rintro e w1 ⟨rfl, b1⟩
  have X1 := row_then HU.out.2.2 b1
  have cX := row_cells X1
  have fX := rowf X1
  have HX := Lib.hid (And.intro X1 (below_then HU.out.2.1 b1))
  unfold box at cX
  clear X1 b1
  go_wp2_with fail
  generalize hV : World.setCell _ _ _ = V'
  obtain ⟨t1, t2⟩ := put5V HX.out.1 hV
  have q := row_cells t2
  have HF := Lib.hid ((Only.of_below (S := []) HX.out.2).then_ t1 (fun i hi => .inr (by simp at hi; omega))).below
  clear hV t1 t2 cX fX
  simp [bodyPost, results, Tryz.results7, go_sem, q]
  exact HF.out
theorem way_d : sD.extract 1 sD.size = ⟨#[]⟩ := by decide +kernel
theorem work_dollar {d : T} (w : World) (henv : EnvR w) : Calls Tryz.prog 7 #[(txtT sD).arg, d.arg] w fun e w' => e = .returned (.tuple #[voidT.arg, .int .i64 50]) ∧ Below w.heap.size w w' := by
  refine Work_nil (txtT_ok (by unfold okLen; decide)) (by simp only [txtT, T.val_mk, List.map_nil]; decide +kernel) ?_ w (txtT_in _ _) henv
  intro t' hv htd _ w gs henv hsc hin
  have e : t' = txtT sD := T.tidy_flat htd (by rw [hv]; rfl)
  subst e
  refine (read_field sD (by decide) (by decide) (by decide) (by decide) gs w henv hsc).mono ?_
  rintro e w' ⟨b, ⟨-, rfl⟩ | ⟨h, -⟩⟩
  · exact ⟨rfl, b⟩
  · rw [way_d, no_d] at h; cases h
end Go.Proofs.YtcpbdmgkeljkgaaGreatDoor
