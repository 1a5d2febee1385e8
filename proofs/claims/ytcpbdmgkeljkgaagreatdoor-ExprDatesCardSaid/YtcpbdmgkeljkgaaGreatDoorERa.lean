/- Reading: a row of values. No statement is proved here. -/
import Derived.Test.YtcpbdmgkeljkgaaGreatDoorERt
namespace Go.Proofs.YtcpbdmgkeljkgaaGreatDoor
open Go.RowKit
set_option maxRecDepth 100000

/-- A value to be read, and what it comes to. -/
structure Rd where
  t : T
  k : Nat
  R : T → Prop
  err : Int
/-- A node that was read, whatever has turned since in row G and in blocks that the value does not lie in. -/
def NodeOk (d : T) (wr : World) (G n0 : Nat) (r : Rd) (u : TypeId) (x : Value) : Prop :=
  ∀ (S : List Nat) (W' : World), (∀ b ∈ S, b = G ∨ (b < n0 ∧ ∀ p ∈ r.t.places, p.1.block ≠ b)) → Only S wr W' → Ev W' d u x r.k r.R r.err
theorem NodeOk.only {d : T} {wr w2 : World} {G n0 : Nat} {r : Rd} {u : TypeId} {x : Value} (h : NodeOk d wr G n0 r u x) (ho : Only [G] wr w2) : NodeOk d w2 G n0 r u x := fun S W' hS hO =>
  h (G :: S) W' (fun b hb => by rcases List.mem_cons.1 hb with rfl | hb; exact .inl rfl; exact hS b hb) ((ho.mono (by simp)).trans (hO.mono (fun i hi => .inl (List.mem_cons_of_mem _ hi))))
/-- The nodes so far. -/
structure AllN (d : T) (rds : List Rd) (w : World) (wr : World) (k : Nat) (ns : List (TypeId × Value)) : Prop where
  len : ns.length = k
  ok : ∀ (i : Nat) (a : TypeId × Value) (r : Rd), ns[i]? = some a → rds[i]? = some r → NodeOk d wr w.heap.size w.heap.size r a.1 a.2
  row : ∃ cur : Array Value, wr.heap[w.heap.size]? = some (.cells cur 47 (0, 0)) ∧ cur.size = rds.length ∧ ∀ (i : Nat) (a : TypeId × Value), ns[i]? = some a → cur[i]? = some (.iface a.1 a.2)
  bel : Below w.heap.size w wr
theorem InL.elemIn {w : World} {la : Option Addr} {rds : List Rd} (h : InL w la (rds.map Rd.t)) {i : Nat} {r : Rd} {t : T} (hr : rds[i]? = some r) (hx : r.t = t) : t.In w := by
  obtain ⟨b, o, e, hc, hi⟩ := h.elem (i := i) (x := t) (by rw [List.getElem?_map, hr, Option.map_some, hx])
  exact hi
theorem AllN.step {d : T} {rds : List Rd} {w wr w1 : World} {k n1 : Nat} {ns : List (TypeId × Value)} {r : Rd} {u : TypeId} {x : Value} {cw : Array Value} (hR : AllN d rds w wr k ns) (h1 : k < rds.length) (hr : rds[k]? = some r) (X1 : w1.heap[w.heap.size]? = some (.cells cw 47 (0, 0))) (hcz : cw.size = rds.length) (bA : Below wr.heap.size wr w1) (hin : r.t.In w)
    (hE : ∀ (S : List Nat) (W' : World), (∀ b ∈ S, b < n1 ∧ ∀ p ∈ r.t.places, p.1.block ≠ b) → Only S w1 W' → Ev W' d u x r.k r.R r.err) (hn1 : wr.heap.size < n1 := by simp) :
    AllN d rds w (w1.setCell ⟨w.heap.size, k, none⟩ (.iface u x)) (k + 1) (ns ++ [(u, x)]) := by
  obtain ⟨cw', hcw', hcz', hvals⟩ := hR.row
  have hGz := lt_of_block hcw'
  have e : cw' = cw := by
    have := (bA.block _ hGz).trans hcw'
    rw [X1] at this
    injection this with this
    injection this with this
    exact this.symm
  subst e
  have hs := heap_setCell_same w1 w.heap.size k _ _ (.iface u x) X1
  have o2 : Only [w.heap.size] w1 (w1.setCell ⟨w.heap.size, k, none⟩ (.iface u x)) := (Only.refl _ w1).setCell (.inl (by simp)) _
  have hlt : ∀ p ∈ r.t.places, p.1.block < w.heap.size := fun p hp => World.block_lt_of_cell? w p.1 (hin p hp)
  refine ⟨by simp [hR.len], ?_, ⟨_, hs, by simpa using hcz, ?_⟩, ?_⟩
  · intro i a r' ha hr'
    rcases Nat.lt_or_ge i ns.length with hi | hi
    · rw [List.getElem?_append_left hi] at ha
      exact ((hR.ok i a r' ha hr').only (Only.of_below bA)).only o2
    · rw [List.getElem?_append_right hi] at ha
      have h0 := (List.getElem?_eq_some_iff.1 ha).1
      simp at h0
      have hik : i = k := by have := hR.len; omega
      subst hik
      rw [show i - ns.length = 0 by omega] at ha
      rw [hr] at hr'
      simp at ha hr'
      subst ha hr'
      intro S W' hS hO
      refine hE (w.heap.size :: S) W' (fun b hb => ?_) ((o2.mono (by simp)).trans (hO.mono (fun i hi => .inl (List.mem_cons_of_mem _ hi))))
      rcases List.mem_cons.1 hb with rfl | hb
      · exact ⟨by omega, fun p hp => by have := hlt p hp; omega⟩
      · rcases hS b hb with rfl | ⟨h, h'⟩
        · exact ⟨by omega, fun p hp => by have := hlt p hp; omega⟩
        · exact ⟨by omega, h'⟩
  · intro i a ha
    rcases Nat.lt_or_ge i ns.length with hi | hi
    · rw [List.getElem?_append_left hi] at ha
      rw [Array.getElem?_setIfInBounds_ne (by have := hR.len; omega)]
      exact hvals i a ha
    · rw [List.getElem?_append_right hi] at ha
      have h0 := (List.getElem?_eq_some_iff.1 ha).1
      simp at h0
      have hik : i = k := by have := hR.len; omega
      subst hik
      rw [show i - ns.length = 0 by omega] at ha
      simp at ha
      subst ha
      rw [Array.getElem?_setIfInBounds_self_of_lt (by omega)]
  · exact (below_then hR.bel bA).setCell (by simp) _
theorem info_node : (Tryz.prog.info? 47).map (fun i => (i.zero, i.size, i.bytes)) = some (some .nilIface, 1, 16) := by kernel_rfl
set_option maxHeartbeats 4000000 in
theorem readAll_any (d : T) (rds : List Rd) (hl : rds.length ≤ 50) (H : ∀ r ∈ rds, Reads d r.t r.k r.R r.err) (la : Option Addr) (lc : Nat) (w : World) (gs : Nat) (henv : EnvR w) (hsc : ScopeAt w gs) (hin : InL w la (rds.map Rd.t)) :
    Calls Tryz.prog 22 #[.slice la rds.length lc, .slice (some ⟨gs, 0, none⟩) 1 1] w fun e w' => ∃ ns, e = .returned (.tuple #[.slice (some ⟨w.heap.size, 0, none⟩) rds.length rds.length, .bool true]) ∧ AllN d rds w w' rds.length ns := by
  obtain ⟨cur, hcur, hmk⟩ := make_any (P := Tryz.prog) 60 47 _ 1 16 Tryz.underlying60 info_node rds.length rds.length (Nat.le_refl _) (by omega) (by omega)
  have HC := Lib.hid hcur
  have HE := Lib.hid (And.intro henv (And.intro hsc hin))
  have HH := Lib.hid H
  clear hcur henv hsc hin H
  go_enter Tryz.func22, Tryz.ntmps22
  go_wp2_with fail
  go_loopw [7, 8, 17] (fun _ _ i wr => ∃ (k : Nat) (ns : List (TypeId × Value)), k ≤ rds.length ∧ i = .int .i64 k ∧ AllN d rds w wr k ns) (fun _ _ i _ => rds.length - (intOf i).toNat)
  case atStart =>
    exact ⟨0, [], by omega, rfl, rfl, by simp, ⟨cur, heap_alloc_new _ _, by rw [HC.out]; omega, by simp⟩, below1 _ _⟩
  case round =>
    obtain ⟨k, ns, hk, rfl, hR⟩ := hrel
    have HR := Lib.hid hR
    have hbz := hR.bel.size
    obtain ⟨-, -, ⟨cw, hrow, hcz, -⟩, hbel⟩ := hR
    have hGz := lt_of_block hrow
    by_cases h1 : k < rds.length
    · obtain ⟨b, o, kx, nx, sx, lax, lcx, lx, dax, dcx, dx, rfl, hx, hix, x0, x1, x2, x3, x4⟩ := (HE.out.2.2.then_ hbel).five (i := k) (by simpa using h1)
      obtain ⟨r, hr⟩ : ∃ r, rds[k]? = some r := ⟨_, List.getElem?_eq_getElem h1⟩
      rw [List.getElem?_map, hr, Option.map_some] at hx
      injection hx with hx
      have hrd := fun (ob : Obj) => HH.out r (List.mem_of_getElem? hr) (wr.alloc ob) gs ((HE.out.1.then_ hbel).then_ (below1 _ _)) ((HE.out.2.1.then_ hbel).then_ (below1 _ _)) (by rw [hx]; exact hix.then_ (below1 _ _))
      rw [show r.t.arg = .agg #[.int .i64 kx, .int .i64 nx, .string sx, .slice lax lx.length lcx, .slice dax dx.length dcx] by rw [hx]; rfl] at hrd
      have HRD := Lib.hid hrd
      have HX := Lib.hid (And.intro hr (And.intro hx (And.intro hbel hrow)))
      have HIN := Lib.hid ((HE.out.2.2.elemIn (i := k) hr hx))
      clear hrd hx hr hix hmk hbel hrow
      go_wp2_with fail
      refine (HRD.out _).mono ?_
      rintro e w1 ⟨u, x, rfl, b1, hE⟩
      have bA := below_then (below1 wr _) b1
      have X1 := row_then HX.out.2.2.2 bA
      have c1 := row_cells X1
      have f1 := rowf X1
      have HY := Lib.hid (And.intro X1 (And.intro bA hE))
      clear X1 bA hE b1
      have HS := AllN.step (u := u) (x := x) HR.out h1 HX.out.1 HY.out.1 hcz HY.out.2.1 (by rw [HX.out.2.1]; exact HIN.out) HY.out.2.2
      go_wp2_with fail
      exact ⟨⟨k + 1, _, by omega, by go_num, HS⟩, by simp [intOf]; omega⟩
    · have hkl : k = rds.length := by omega
      subst hkl
      go_wp2_with fail
      go_ret2
      exact ⟨ns, rfl, HR.out⟩
end Go.Proofs.YtcpbdmgkeljkgaaGreatDoor
