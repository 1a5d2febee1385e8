/- Calls of two numbers, worked out. No statement is proved here. -/
import Derived.Test.YtcpbdmgkeljkgaaGreatDoorECc
import Derived.Test.YtcpbdmgkeljkgaaGreatDoorJ6
namespace Go.Proofs.YtcpbdmgkeljkgaaGreatDoor
open Go.RowKit
set_option maxRecDepth 100000

/-- What a call of two numbers comes to; none: an error. -/
def resO : OpX → Int → Int → Option Int
  | .add, a, b => if in64 (a + b) then some (a + b) else none
  | .mul, a, b => if in64 (a * b) then some (a * b) else none
  | .sub, a, b => if in64 (a - b) then some (a - b) else none
  | .div, a, b => if b = 0 then none else if a = -9223372036854775808 ∧ b = -1 then none else some (a.tdiv b)
  | .mod, a, b => if b = 0 then none else some (a.tmod b)
  | _, _, _ => none
def vO (o : OpX) (a b : Int) : T := match resO o a b with
  | some n => intT n
  | none => voidT
def eO (o : OpX) (a b : Int) : Int := match o with
  | .add => if in64 (a + b) then 0 else 52
  | .mul => if in64 (a * b) then 0 else 52
  | .sub => if in64 (a - b) then 0 else 52
  | .div => divE a b
  | .mod => if b = 0 then 53 else 0
  | _ => 1
theorem eO_zero (o : OpX) (a b : Int) : (eO o a b = 0 ∧ ∃ n, resO o a b = some n ∧ vO o a b = intT n) ∨ (eO o a b ≠ 0 ∧ resO o a b = none ∧ vO o a b = voidT) := by
  unfold vO
  cases o <;> simp only [eO, resO]
  case add | mul | sub | mod => split <;> simp
  case div =>
    unfold divE
    split
    · simp
    · split <;> simp
  all_goals simp
theorem tmod_in {a b : Int} (ha : in64 a) : in64 (a.tmod b) := by
  have h3 : (a.tmod b).natAbs ≤ a.natAbs := by rw [Int.natAbs_tmod]; exact Nat.mod_le _ _
  have h4 : 0 ≤ a → 0 ≤ a.tmod b := fun h => Int.tmod_nonneg b h
  unfold in64 at ha ⊢
  have h5 : a ≤ 0 → a.tmod b ≤ 0 := fun h => by
    have h6 := Int.tmod_nonneg b (show 0 ≤ -a by omega)
    rw [Int.neg_tmod] at h6
    omega
  omega
theorem kinds_cells {W : World} {g : Nat} {kms : List Int} (h : W.heap[g]? = some (.cells (kms.map (Value.int .i64)).toArray 128 (0, 0))) : ∀ (j : Nat) (m : Int), kms[j]? = some m → W.cell? ⟨g, j, none⟩ = some (.int .i64 m) := fun j m hj => by
  rw [row_cells h j, List.getElem?_toArray, List.getElem?_map, hj]; rfl
theorem resO_in {o : OpX} {a b n : Int} (ha : in64 a) (hb : in64 b) (h : resO o a b = some n) : in64 n := by
  cases o <;> simp only [resO] at h
  case add | mul | sub =>
    split at h
    · rename_i h1; injection h with h; exact h ▸ h1
    · cases h
  case div =>
    split at h
    · cases h
    · split at h
      · cases h
      · rename_i h1 h2; injection h with h; exact h ▸ div_within ha h1 h2
  case mod =>
    split at h
    · cases h
    · injection h with h
      exact h ▸ tmod_in ha
  all_goals cases h
def rdI (n : Int) : Rd := ⟨intT n, 0, fun r => r = intT n, 0⟩
def arith : OpX → Bool
  | .add => true
  | .mul => true
  | .sub => true
  | .div => true
  | .mod => true
  | _ => false
theorem made2 {o : OpX} (ho : arith o = true) {a b : Int} (ha : in64 a) (hb : in64 b) {l : List Nod} (hl : TwoN l a b) : ∃ gM, (∀ (args : Array Value) (w : World), (callFunc gM args).run Tryz.prog w = .ok (.enter gM args) w) ∧ MadeTo gM l (fun r => r = vO o a b) (eO o a b) ∧
    ∀ (B : Nat) (W : World) (v : Value), OpAt B W o v → ∃ (kms : List Int) (least : Int) (more : Bool) (gk nk ck : Nat), v = sOp least more gk nk ck (fOf gM) ∧ kms.length = nk ∧ 1 ≤ nk ∧ nk ≤ 1000 ∧ (∀ m ∈ kms, m = 8 ∨ m = 1032) ∧ ∀ (j : Nat) (m : Int), kms[j]? = some m → W.cell? ⟨gk, j, none⟩ = some (.int .i64 m) := by
  cases o <;> simp only [arith, Bool.false_eq_true] at ho
  case add =>
    refine ⟨72, fun args w => by kernel_rfl, ?_, ?_⟩
    · have h := add_made ha hb hl
      have e : vO .add a b = if in64 (a + b) then intT (a + b) else voidT := by by_cases h1 : in64 (a + b) <;> simp [vO, resO, h1]
      rw [e]; exact h
    · rintro B W v ⟨g, -, rfl, h⟩
      exact ⟨[1032], 1, true, g, 1, 1, rfl, rfl, by omega, by omega, by simp, kinds_cells (kms := [1032]) h⟩
  case mul =>
    refine ⟨73, fun args w => by kernel_rfl, ?_, ?_⟩
    · have h := mul_made ha hb hl
      have e : vO .mul a b = if in64 (a * b) then intT (a * b) else voidT := by by_cases h1 : in64 (a * b) <;> simp [vO, resO, h1]
      rw [e]; exact h
    · rintro B W v ⟨g, -, rfl, h⟩
      exact ⟨[8], 1, true, g, 1, 1, rfl, rfl, by omega, by omega, by simp, kinds_cells (kms := [8]) h⟩
  case sub =>
    refine ⟨75, fun args w => by kernel_rfl, ?_, ?_⟩
    · have h := sub_made ha hb hl
      have e : vO .sub a b = if in64 (a - b) then intT (a - b) else voidT := by by_cases h1 : in64 (a - b) <;> simp [vO, resO, h1]
      rw [e]; exact h
    · rintro B W v ⟨g, -, rfl, h⟩
      exact ⟨[1032, 1032], 2, false, g, 2, 2, rfl, rfl, by omega, by omega, by simp, kinds_cells (kms := [1032, 1032]) h⟩
  case div =>
    refine ⟨76, fun args w => by kernel_rfl, ?_, ?_⟩
    · have h := div_made ha hb hl
      have e : vO .div a b = divT a b := by by_cases h1 : b = 0 <;> by_cases h2 : a = -9223372036854775808 ∧ b = -1 <;> simp [vO, resO, divT, h1, h2]
      rw [e]; exact h
    · rintro B W v ⟨g, -, rfl, h⟩
      exact ⟨[8, 8], 2, false, g, 2, 2, rfl, rfl, by omega, by omega, by simp, kinds_cells (kms := [8, 8]) h⟩
  case mod =>
    refine ⟨77, fun args w => by kernel_rfl, ?_, ?_⟩
    · have h := mod_made ha hb (tmod_in ha) hl
      have e : vO .mod a b = if b = 0 then voidT else intT (a.tmod b) := by by_cases h1 : b = 0 <;> simp [vO, resO, h1]
      rw [e]; exact h
    · rintro B W v ⟨g, -, rfl, h⟩
      exact ⟨[8, 8], 2, false, g, 2, 2, rfl, rfl, by omega, by omega, by simp, kinds_cells (kms := [8, 8]) h⟩
theorem two_ns {ns : List (TypeId × Value)} (h : ns.length = 2) : ∃ p q, ns = [p, q] := by
  match ns, h with
  | [p, q], _ => exact ⟨p, q, rfl⟩
theorem op2 {d : T} {o : OpX} (ho : arith o = true) {a b : Int} (ha : in64 a) (hb : in64 b) (B : Nat) (W : World) (u : TypeId) (x : Value) (ga c : Nat) (ns : List (TypeId × Value)) (hop : OpAt B W o (.iface u x)) (hlen : ns.length = 2)
    (hE : ∀ (i : Nat) (a' : TypeId × Value) (r : Rd), ns[i]? = some a' → [rdI a, rdI b][i]? = some r → Ev W d a'.1 a'.2 r.k r.R r.err ∧ W.cell? ⟨ga, i, none⟩ = some (.iface a'.1 a'.2)) : OpTo W d u x ga 2 c 2 (fun r => r = vO o a b) (eO o a b) := by
  obtain ⟨p, q, rfl⟩ := two_ns hlen
  obtain ⟨e1, c1⟩ := hE 0 p (rdI a) rfl rfl
  obtain ⟨e2, c2⟩ := hE 1 q (rdI b) rfl rfl
  have hl : TwoN [⟨p.1, p.2, 0, fun r => r = intT a⟩, ⟨q.1, q.2, 0, fun r => r = intT b⟩] a b := ⟨_, _, rfl, fun r h => h, fun r h => h⟩
  obtain ⟨gM, hf, hM, hO⟩ := made2 ho ha hb hl
  obtain ⟨kms, least, more, gk, nk, ck, hv, h1, h2, h3, h4, h5⟩ := hO B W _ hop
  injection hv with hv1 hv2
  subst hv1 hv2
  have := strict_op (W := W) (d := d) (least := least) (more := more) (gk := gk) (nk := nk) (ck := ck) (gM := gM) kms h1 h2 h3 h5 [⟨p.1, p.2, 0, fun r => r = intT a⟩, ⟨q.1, q.2, 0, fun r => r = intT b⟩] (by simp) (by simp) (by
      intro n hn
      rcases List.mem_cons.1 hn with rfl | hn
      · exact e1
      · rw [List.mem_singleton.1 hn]; exact e2) ga c (by
      intro i n hn
      match i, hn with
      | 0, hn => simp at hn; subst hn; exact c1
      | 1, hn => simp at hn; subst hn; exact c2) (by
      intro n hn r hr
      rcases List.mem_cons.1 hn with rfl | hn
      · exact ⟨a, hr⟩
      · rw [List.mem_singleton.1 hn] at hr; exact ⟨b, hr⟩) h4 hf hM
  exact this
theorem intT_size (n : Int) : sizeV (intT n).val ≤ 65536 := by simp [intT, T.val_mk, sizeV, szFrom]
theorem voidT_size : sizeV voidT.val ≤ 65536 := by simp [voidT, T.val_mk, sizeV, szFrom]
theorem reads2 {d : T} {o : OpX} (ho : arith o = true) {a b : Int} (ha : in64 a) (hb : in64 b) {name : ByteArray} (hop : OpName o name) (da : Option Addr) (dc : Nat) (la : Option Addr) (lc : Nat) : Reads d (callT name da dc la lc [intT a, intT b]) 2 (fun r => r = vO o a b) (eO o a b) := by
  have ha2 : argc o = 2 := by cases o <;> first | rfl | simp [arith] at ho
  refine reads_call d hop [rdI a, rdI b] ha2.symm ?_ ?_ ?_ (fun B W u x ga c ns h1 h2 h3 => op2 ho ha hb B W u x ga c ns h1 h2 h3) da dc la lc
  · intro r hr
    have hi : ∀ n, in64 n → Reads d (rdI n).t (rdI n).k (rdI n).R (rdI n).err := fun n hn => reads_plain d (intT n) (intT_ok hn) (by intro k m s la lc l da dc f h; unfold intT at h; injection h with h; subst h; decide)
    rcases List.mem_cons.1 hr with rfl | hr
    · exact hi a ha
    · rw [List.mem_singleton.1 hr]; exact hi b hb
  · rintro he r rfl
    rcases eO_zero o a b with ⟨-, n, -, h⟩ | ⟨h, -⟩
    · rw [h]; exact intT_size n
    · exact absurd he h
  · intro he
    rcases eO_zero o a b with ⟨h, -⟩ | ⟨-, -, h⟩
    · exact absurd h he
    · exact h.symm
/-- What the value of a call of two numbers is. -/
theorem right2 (name : ByteArray) (hn : nameOk name = true) (hs : name.size ≤ 20) (da : Option Addr) (dc : Nat) (la : Option Addr) (lc : Nat) (a b : Int) : rightOf (callT name da dc la lc [intT a, intT b]).val = 0 := by
  simp only [callT, T.val_mk, intT, List.map_cons, List.map_nil]
  have hsz : szFrom 0 (.mk 5 0 ⟨#[]⟩ [] [(name, .mk 6 0 ⟨#[]⟩ [.mk 3 a ⟨#[]⟩ [] [], .mk 3 b ⟨#[]⟩ [] []] [])]) = 5 + 2 + name.size + 5 + 2 + 1 + 8 + 2 + 1 + 8 := by
    simp [szFrom, szD, szL, digN]
    omega
  unfold rightOf sizeV
  rw [hsz, if_neg (by split <;> omega)]
  simp [rightV, rightD, rightL, aloneV, fitsV, hn]
theorem work2_any {d : T} (hd : d.ok) {o : OpX} (ho : arith o = true) {a b : Int} (ha : in64 a) (hb : in64 b) {name : ByteArray} (hop : OpName o name) (hn : nameOk name = true) (hs : name.size ≤ 20) (g : Nat) (la : Option Addr) (lc : Nat) (hlc : 2 ≤ lc ∧ lc ≤ 1000) (hla : la = none → lc = 0) (w : World) (hin : (callT name (some ⟨g, 0, none⟩) 1 la lc [intT a, intT b]).In w) (hind : d.In w) (henv : EnvR w) :
    Calls Tryz.prog 7 #[(callT name (some ⟨g, 0, none⟩) 1 la lc [intT a, intT b]).arg, d.arg] w fun e w' => e = .returned (.tuple #[(vO o a b).arg, .int .i64 (eO o a b)]) ∧ Below w.heap.size w w' := by
  have hok : (callT name (some ⟨g, 0, none⟩) 1 la lc [intT a, intT b]).ok := callT_ok (by unfold okLen; omega) (by
    intro x hx
    rcases List.mem_cons.1 hx with rfl | hx
    · exact intT_ok ha
    · rw [List.mem_singleton.1 hx]; exact intT_ok hb) hlc hla
  refine (Work_any hd hok (right2 name hn hs _ _ _ _ a b) (k := 2) (R := fun r => r = vO o a b) (err := eO o a b) (by omega) ?_ w hin hind henv).mono ?_
  · intro t' hv htd hok'
    obtain ⟨da', dc', la', lc', l', rfl, hl, htl, -⟩ := callT_inv hv htd hok'
    obtain ⟨x, y, rfl⟩ : ∃ x y, l' = [x, y] := by
      match l', (show l'.length = 2 by simpa using congrArg List.length hl) with
      | [x, y], _ => exact ⟨x, y, rfl⟩
    simp only [List.map_cons, List.map_nil] at hl
    injection hl with hx hl
    injection hl with hy _
    have e1 : x = intT a := T.tidy_flat (htl x (by simp)) (by rw [hx]; rfl)
    have e2 : y = intT b := T.tidy_flat (htl y (by simp)) (by rw [hy]; rfl)
    subst e1 e2
    exact reads2 ho ha hb hop _ _ _ _
  · rintro e w' ⟨hb', ⟨he, r, r', rfl, rfl, hv, htd, -, -, -⟩ | ⟨he, rfl⟩⟩
    · refine ⟨?_, hb'⟩
      rcases eO_zero o a b with ⟨-, n, -, h⟩ | ⟨h, -⟩
      · rw [h] at hv ⊢
        have e1 : r' = intT n := T.tidy_flat htd (by rw [hv]; rfl)
        rw [e1, he]
      · exact absurd he h
    · refine ⟨?_, hb'⟩
      rcases eO_zero o a b with ⟨h, -⟩ | ⟨-, -, h⟩
      · exact absurd h he
      · rw [h]
end Go.Proofs.YtcpbdmgkeljkgaaGreatDoor
