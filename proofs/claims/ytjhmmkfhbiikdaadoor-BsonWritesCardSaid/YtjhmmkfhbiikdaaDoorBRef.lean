/- The contract of the document's own writer, coffretref02.bytes, field, Encode. No statement is proved here. -/
import Derived.Test.YtjhmmkfhbiikdaaDoorBWrite
import Derived.Test.YtjhmmkfhbiikdaaDoorRefWalk
namespace Go.Proofs.YtjhmmkfhbiikdaaDoor
open Go.RowKit
set_option maxRecDepth 100000

def MakesB (l : List Int) (w : World) (e : Ending) (w' : World) : Prop := ∃ v', e = .returned v' ∧ OwnB w' w.heap.size v' l ∧ Below w.heap.size w w'
def RefEncAt (t : T) : Prop := ∀ (w : World) (deep : Int) (B : Nat), t.In w → (encV t.val).length ≤ 140737488350000 → rightV deep t.val = 0 → Env2 w B → B ≤ w.heap.size → Calls Tryd.prog 28 #[t.arg] w (MakesB (encV t.val) w)
theorem OwnB.of_row {w : World} {B : Nat} {v : Value} {l : List Int} {n : Nat} (h : w.ownsRow B 5 1 v n (btV l)) (hn : l.length = n) : OwnB w B v l := by
  subst hn
  exact h
theorem Grew.makesB {w w0 w' : World} {v v' : Value} {l0 l : List Int} (h : OwnB w0 w.heap.size v l0) (hb : Below w.heap.size w w0) (g : Grew w.heap.size w0 w' v v' l) : MakesB l w (.returned v') w' :=
  ⟨v', rfl, g.own, g.below h hb (Nat.le_refl _) hb.size⟩
set_option maxHeartbeats 4000000 in
theorem refField_any (t : T) (ih : RefEncAt t) (s : ByteArray) (w : World) (deep : Int) (B : Nat) (hin : t.In w) (hl : (encF s t.val).length ≤ 140737488350000) (hr : rightV deep t.val = 0) (hE : Env2 w B) (hB : B ≤ w.heap.size) :
    Calls Tryd.prog 40 #[.string s, t.arg] w (MakesB (encF s t.val) w) := by
  obtain ⟨kx, nx, sx, lax, lcx, lx, dax, dcx, dx⟩ := t
  obtain ⟨k1, k11⟩ := right_kind (by rw [T.val_mk] at hr; exact hr)
  obtain ⟨k, rfl⟩ : ∃ k : Nat, kx = k := ⟨kx.toNat, by omega⟩
  have hkb : kByte (T.val (.mk k nx sx lax lcx lx dax dcx dx)) = kindB.getD k 0 := by
    rw [T.val_mk, kByte, Int.toNat_natCast]
  have hlen : (encF s (T.val (.mk k nx sx lax lcx lx dax dcx dx))).length = s.size + 2 + (encV (T.val (.mk k nx sx lax lcx lx dax dcx dx))).length := by
    rw [encF, List.length_cons, List.length_append, List.length_cons, bsI_len]; omega
  rw [hlen] at hl
  show Calls _ _ #[.string s, .agg #[.int .i64 k, .int .i64 nx, .string sx, .slice lax lx.length lcx, .slice dax dx.length dcx]] _ _
  have b0 := below1 w (.cells #[.int .i64 k, .int .i64 nx, .string sx, .slice lax lx.length lcx, .slice dax dx.length dcx] 25)
  have r0 := heap_alloc_new w (.cells #[.int .i64 k, .int .i64 nx, .string sx, .slice lax lx.length lcx, .slice dax dx.length dcx] 25)
  have H0 := Lib.hid (And.intro b0 r0)
  have HI := Lib.hid (And.intro ih (And.intro hin (And.intro hr hE)))
  have HK := Lib.hid hkb
  have HL := Lib.hid hl
  obtain ⟨c, hc⟩ : ∃ c, kindB.getD k 0 = c := ⟨_, rfl⟩
  have HKN : ∀ W, Calls Tryd.prog 57 #[.int .i64 k] W fun e w' => e = .returned (.int .u8 c) ∧ Below W.heap.size W w' := fun W => hc ▸ rkind_any k (by omega) (by omega) W
  rw [hc] at HK
  clear ih hin hr hE hkb hlen hl b0 r0 hc
  go_enter Tryd.func40, Tryd.ntmps40
  go_wp2_with (first
    | (go_at_call 57; refine (HKN _).mono ?_; rintro e w1 ⟨rfl, b1⟩; have H1 := Lib.hid (And.intro ((below_then H0.out.1 b1).alloc (below_then H0.out.1 b1).size (.cells #[.int .u8 c] 5)) (And.intro (row_then (row_then H0.out.2 b1) (below1 w1 (.cells #[.int .u8 c] 5))) (And.intro ((OwnB.lit w1 [c] (by simp [maxLen])).base (B' := w.heap.size) (below_then H0.out.1 b1).size) (show ∀ b, (Value.slice (some ⟨w1.heap.size, 0, none⟩) 1 1).ownBlock = some b → b ≠ w.heap.size from fun b hb => by have := lt_of_block (row_then H0.out.2 b1); simp [Value.ownBlock] at hb; omega)))); clear b1)
    | (at_builtin; refine apS rfl (.tmp 10) (.tmp 11) rfl w.heap.size _ _ rfl H1.out.2.2.1 s rfl (by simp; have := HL.out; omega) H1.out.1.size ?_; intro v2 w2 hg2; have r2 := hg2.row H1.out.2.1 H1.out.2.2.2; have H2 := Lib.hid (And.intro hg2 (And.intro r2 (hg2.off (g := w.heap.size) (lt_of_block H1.out.2.1) H1.out.2.2.2))); clear hg2 r2)
    | (at_builtin; refine apL _ rfl (.tmp 13) (.tmp 14) rfl w.heap.size _ _ rfl H2.out.1.own [0] _ 1 1 rfl rfl rfl rfl (by simp; have := HL.out; rw [bsI_len]; omega) (Nat.le_trans H1.out.1.size H2.out.1.size) ?_; intro v3 w3 hg3; have r3 := hg3.row H2.out.2.1 H2.out.2.2; have c3 := row_cells r3; have H3 := Lib.hid (And.intro (H2.out.1.trans hg3) ((H2.out.1.trans hg3).below H1.out.2.2.1 H1.out.1 (Nat.le_refl _) H1.out.1.size)); clear hg3 r3)
    | (go_at_call 28; refine (HI.out.1 w3 deep B (HI.out.2.1.then_ H3.out.2) (by have := HL.out; omega) HI.out.2.2.1 (HI.out.2.2.2.then_ H3.out.2) (Nat.le_trans hB H3.out.2.size)).mono ?_; rintro e w4 ⟨v4, rfl, ho4, b4⟩; obtain ⟨a4, c4, rfl, hi4, h04, -, -⟩ := ho4.shape; have H4 := Lib.hid (And.intro hi4 (And.intro h04 b4)); clear ho4 hi4 h04 b4)
    | (at_builtin; refine apR rfl (.tmp 16) (.tmp 18) rfl w.heap.size _ _ rfl (H3.out.1.own.then_ H4.out.2.2) a4 _ c4 _ rfl rfl H4.out.1 H4.out.2.1 (by simp; have := HL.out; rw [bsI_len]; omega) (Nat.le_trans H3.out.2.size H4.out.2.2.size) ?_; intro v5 w5 hg5; have G5 := Lib.hid (H3.out.1.trans (Grew.pre H4.out.2.2 hg5)); clear hg5))
  go_ret
  have h := Grew.makesB H1.out.2.2.1 H1.out.1 G5.out
  rw [encF, HK.out]
  rw [show [c] ++ bsI s ++ [0] ++ encV (T.val (.mk k nx sx lax lcx lx dax dcx dx)) = c :: (bsI s ++ 0 :: encV (T.val (.mk k nx sx lax lcx lx dax dcx dx))) by simp] at h
  exact h
/-- A document's or list's bytes, by then. -/
structure RefBox (w w0 : World) (cs : Array Value) : Prop where
  box : w0.heap[w.heap.size]? = some (.cells cs 25 (0, 0))
  below : Below w.heap.size w w0
theorem RefBox.grown {w w0 wr : World} {cs : Array Value} {v' : Value} {l : List Int} (h : RefBox w w0 cs) (g : Grew w.heap.size w0 wr (.slice none 0 0) v' l) : RefBox w wr cs ∧ (∀ b, v'.ownBlock = some b → b ≠ w.heap.size) := by
  have hb0 : ∀ b, (Value.slice none 0 0).ownBlock = some b → b ≠ w.heap.size := by intro b hb; simp [Value.ownBlock] at hb
  exact ⟨⟨g.row h.box hb0, g.below (OwnB.nil _ _) h.below (Nat.le_refl _) h.below.size⟩, g.off (lt_of_block h.box) hb0⟩
set_option maxHeartbeats 4000000 in
theorem refNum_case (k n : Int) (s : ByteArray) (la : Option Addr) (lc ln : Nat) (da : Option Addr) (dc dn : Nat) (hk : k = 3 ∨ k = 10) (w : World) :
    Calls Tryd.prog 28 #[.agg #[.int .i64 k, .int .i64 n, .string s, .slice la ln lc, .slice da dn dc]] w (MakesB (leB 8 n) w) := by
  rcases hk with rfl | rfl
  all_goals (
    go_enter Tryd.func28, Tryd.ntmps28
    go_wp2_with (first
      | (go_at_call 38; refine (eight_any n _).mono ?_; rintro e w2 ⟨g, cap, rfl, ho2, b2⟩))
    go_ret
    exact ⟨_, rfl, (OwnB.of_row ho2 (leB_len _ _)).base (below1 _ _).size, below_then (below1 _ _) b2⟩)
set_option maxHeartbeats 4000000 in
theorem refText_case (n : Int) (s : ByteArray) (la : Option Addr) (lc ln : Nat) (da : Option Addr) (dc dn : Nat) (w : World) (hl : s.size + 5 ≤ 140737488350000) :
    Calls Tryd.prog 28 #[.agg #[.int .i64 4, .int .i64 n, .string s, .slice la ln lc, .slice da dn dc]] w (MakesB (leB 4 (s.size + 1) ++ bsI s ++ [0]) w) := by
  have b0 := below1 w (.cells #[.int .i64 4, .int .i64 n, .string s, .slice la ln lc, .slice da dn dc] 25)
  have r0 := heap_alloc_new w (.cells #[.int .i64 4, .int .i64 n, .string s, .slice la ln lc, .slice da dn dc] 25)
  have H0 := Lib.hid (RefBox.mk r0 b0)
  clear b0 r0
  go_enter Tryd.func28, Tryd.ntmps28
  go_wp2_with (first
    | (go_at_call 39; refine (four_any _ (by omega) (by omega) _).mono ?_; rintro e w1 ⟨rfl, ho1, b1⟩; obtain ⟨a1, c1, e1, hi1, h01, -, -⟩ := (OwnB.of_row ho1 (leB_len _ _)).shape; injection e1 with e1 e2 e3; clear e2; subst e1 e3; simp only [World.size_alloc] at hi1 h01; have H1 := Lib.hid (And.intro hi1 (And.intro h01 (RefBox.mk (row_then H0.out.box b1) (below_then H0.out.below b1)))); clear ho1 hi1 h01 b1)
    | (at_builtin; refine apR rfl (.tmp 17) (.tmp 22) rfl w.heap.size _ [] rfl (OwnB.nil _ _) _ 4 4 (leB 4 ((s.size : Int) + 1)) rfl (leB_len _ _) H1.out.1 H1.out.2.1 (by simp) H1.out.2.2.below.size ?_; intro v2 w2 hg2; have R2 := H1.out.2.2.grown hg2; have c2 := row_cells R2.1.box; have H2 := Lib.hid (And.intro hg2 R2); clear hg2 R2)
    | (at_builtin; refine apS rfl (.tmp 24) (.tmp 26) rfl w.heap.size _ _ rfl H2.out.1.own s rfl (by simp [leB_len]; omega) H2.out.2.1.below.size ?_; intro v3 w3 hg3; have H3 := Lib.hid (H2.out.1.trans hg3); clear hg3)
    | (at_builtin; refine apL _ rfl (.tmp 28) (.tmp 29) rfl w.heap.size _ _ rfl H3.out.own [0] _ 1 1 rfl rfl rfl rfl (by simp [leB_len, bsI_len]; omega) (Nat.le_trans H1.out.2.2.below.size H3.out.size) ?_; intro v4 w4 hg4; have H4 := Lib.hid (H3.out.trans hg4); clear hg4))
  go_ret
  have h := Grew.makesB (OwnB.nil _ w.heap.size) H1.out.2.2.below H4.out
  simp only [List.nil_append] at h
  exact h
set_option maxHeartbeats 4000000 in
theorem refBlob_case (n : Int) (s : ByteArray) (la : Option Addr) (lc ln : Nat) (da : Option Addr) (dc dn : Nat) (w : World) (hl : s.size + 5 ≤ 140737488350000) :
    Calls Tryd.prog 28 #[.agg #[.int .i64 7, .int .i64 n, .string s, .slice la ln lc, .slice da dn dc]] w (MakesB (leB 4 s.size ++ [0] ++ bsI s) w) := by
  have b0 := below1 w (.cells #[.int .i64 7, .int .i64 n, .string s, .slice la ln lc, .slice da dn dc] 25)
  have r0 := heap_alloc_new w (.cells #[.int .i64 7, .int .i64 n, .string s, .slice la ln lc, .slice da dn dc] 25)
  have H0 := Lib.hid (RefBox.mk r0 b0)
  clear b0 r0
  go_enter Tryd.func28, Tryd.ntmps28
  go_wp2_with (first
    | (go_at_call 39; refine (four_any _ (by omega) (by omega) _).mono ?_; rintro e w1 ⟨rfl, ho1, b1⟩; obtain ⟨a1, c1, e1, hi1, h01, -, -⟩ := (OwnB.of_row ho1 (leB_len _ _)).shape; injection e1 with e1 e2 e3; clear e2; subst e1 e3; simp only [World.size_alloc] at hi1 h01; have H1 := Lib.hid (And.intro hi1 (And.intro h01 (RefBox.mk (row_then H0.out.box b1) (below_then H0.out.below b1)))); clear ho1 hi1 h01 b1)
    | (at_builtin; refine apR rfl (.tmp 33) (.tmp 37) rfl w.heap.size _ [] rfl (OwnB.nil _ _) _ 4 4 (leB 4 (s.size : Int)) rfl (leB_len _ _) H1.out.1 H1.out.2.1 (by simp) H1.out.2.2.below.size ?_; intro v2 w2 hg2; have R2 := H1.out.2.2.grown hg2; have H2 := Lib.hid (And.intro hg2 R2); clear hg2 R2)
    | (at_builtin; refine apL _ rfl (.tmp 39) (.tmp 40) rfl w.heap.size _ _ rfl H2.out.1.own [0] _ 1 1 rfl rfl rfl rfl (by simp [leB_len]) H2.out.2.1.below.size ?_; intro v3 w3 hg3; have c3 := row_cells (hg3.row H2.out.2.1.box H2.out.2.2); have H3 := Lib.hid (H2.out.1.trans hg3); clear hg3)
    | (at_builtin; refine apS rfl (.tmp 42) (.tmp 44) rfl w.heap.size _ _ rfl H3.out.own s rfl (by simp [leB_len]; omega) (Nat.le_trans H1.out.2.2.below.size H3.out.size) ?_; intro v4 w4 hg4; have H4 := Lib.hid (H3.out.trans hg4); clear hg4))
  go_ret
  have h := Grew.makesB (OwnB.nil _ w.heap.size) H1.out.2.2.below H4.out
  simp only [List.nil_append] at h
  exact h
set_option maxHeartbeats 2000000 in
theorem refId_case (n : Int) (s : ByteArray) (la : Option Addr) (lc ln : Nat) (da : Option Addr) (dc dn : Nat) (w : World) (hl : s.size ≤ 140737488350000) :
    Calls Tryd.prog 28 #[.agg #[.int .i64 8, .int .i64 n, .string s, .slice la ln lc, .slice da dn dc]] w (MakesB (bsI s) w) := by
  go_enter Tryd.func28, Tryd.ntmps28
  go_wp2_with (first
    | (at_builtin; refine apS rfl (.tmp 48) (.tmp 50) rfl w.heap.size _ [] rfl (OwnB.nil _ _) s rfl (by simp; omega) (below1 _ _).size ?_; intro v4 w4 hg4; have H4 := Lib.hid hg4; clear hg4))
  go_ret
  have h := Grew.makesB (OwnB.nil _ w.heap.size) (below1 _ _) H4.out
  simp only [List.nil_append] at h
  exact h
set_option maxHeartbeats 2000000 in
theorem refBool_case (n : Int) (s : ByteArray) (la : Option Addr) (lc ln : Nat) (da : Option Addr) (dc dn : Nat) (w : World) (hn : 0 ≤ n ∧ n ≤ 1) :
    Calls Tryd.prog 28 #[.agg #[.int .i64 9, .int .i64 n, .string s, .slice la ln lc, .slice da dn dc]] w (MakesB [n] w) := by
  have hm : n % 256 = n := by omega
  have HM := Lib.hid hm
  clear hm hn
  go_enter Tryd.func28, Tryd.ntmps28
  go_wp2_with (first
    | (at_builtin; refine apL _ rfl (.tmp 54) (.tmp 58) rfl w.heap.size _ [] rfl (OwnB.nil _ _) [_] _ 1 1 rfl (by simp) rfl rfl (by simp) (below1 _ _).size ?_; intro v4 w4 hg4; have H4 := Lib.hid hg4; clear hg4))
  go_ret
  have h := Grew.makesB (OwnB.nil _ w.heap.size) (below1 _ _) H4.out
  rw [HM.out, List.nil_append] at h
  exact h
set_option maxHeartbeats 2000000 in
theorem refPlain_case (k n : Int) (s : ByteArray) (la : Option Addr) (lc ln : Nat) (da : Option Addr) (dc dn : Nat) (hk : k = 1 ∨ k = 2 ∨ k = 11) (w : World) :
    Calls Tryd.prog 28 #[.agg #[.int .i64 k, .int .i64 n, .string s, .slice la ln lc, .slice da dn dc]] w (MakesB [] w) := by
  rcases hk with rfl | rfl | rfl
  all_goals (
    go_enter Tryd.func28, Tryd.ntmps28
    go_wp2_with fail
    go_ret
    exact ⟨_, rfl, OwnB.nil _ _, below1 _ _⟩)
theorem InL.cells5 {w : World} {b o : Nat} {l : List T} (h : InL w (some ⟨b, o, none⟩) l) {i : Nat} {k n : Int} {s : ByteArray} {la : Option Addr} {lc : Nat} {l' : List T} {da : Option Addr} {dc : Nat} {d' : List (ByteArray × T)} (hx : l[i]? = some (.mk k n s la lc l' da dc d')) :
    T.In w (.mk k n s la lc l' da dc d') ∧ w.cell? ⟨b, o + i * 5, none⟩ = some (.int .i64 k) ∧ w.cell? ⟨b, o + i * 5 + 1, none⟩ = some (.int .i64 n) ∧ w.cell? ⟨b, o + i * 5 + 2, none⟩ = some (.string s) ∧
      w.cell? ⟨b, o + i * 5 + 3, none⟩ = some (.slice la l'.length lc) ∧ w.cell? ⟨b, o + i * 5 + 4, none⟩ = some (.slice da d'.length dc) := by
  obtain ⟨b', o', e, hc, hin⟩ := h.elem hx
  injection e with e
  injection e with e1 e2
  subst e1 e2
  exact ⟨hin, hc 0 _ rfl, hc 1 _ rfl, hc 2 _ rfl, hc 3 _ rfl, hc 4 _ rfl⟩
theorem InD.cells6 {w : World} {b o : Nat} {l : List (ByteArray × T)} (h : InD w (some ⟨b, o, none⟩) l) {i : Nat} {f : ByteArray} {k n : Int} {s : ByteArray} {la : Option Addr} {lc : Nat} {l' : List T} {da : Option Addr} {dc : Nat} {d' : List (ByteArray × T)} (hx : l[i]? = some (f, .mk k n s la lc l' da dc d')) :
    T.In w (.mk k n s la lc l' da dc d') ∧ w.cell? ⟨b, o + i * 6, none⟩ = some (.string f) ∧ w.cell? ⟨b, o + i * 6 + 1, none⟩ = some (.int .i64 k) ∧ w.cell? ⟨b, o + i * 6 + 2, none⟩ = some (.int .i64 n) ∧ w.cell? ⟨b, o + i * 6 + 3, none⟩ = some (.string s) ∧
      w.cell? ⟨b, o + i * 6 + 4, none⟩ = some (.slice la l'.length lc) ∧ w.cell? ⟨b, o + i * 6 + 5, none⟩ = some (.slice da d'.length dc) := by
  obtain ⟨b', o', e, hc, hin⟩ := h.elem hx
  injection e with e
  injection e with e1 e2
  subst e1 e2
  exact ⟨hin, hc 0 _ rfl, hc 1 _ rfl, hc 2 _ rfl, hc 3 _ rfl, hc 4 _ rfl, hc 5 _ rfl⟩
set_option maxHeartbeats 8000000 in
theorem refD_case (n : Int) (s : ByteArray) (la : Option Addr) (lc : Nat) (l : List (ByteArray × T)) (da : Option Addr) (dc dn : Nat) (w : World) (deep : Int) (B : Nat) (hl : (encD (l.map fun f => (f.1, f.2.val))).length + 5 ≤ 140737488350000) (ha : InD w la l) (hn : l.length ≤ 1759218604390) (ih : ∀ x ∈ l, RefEncAt x.2) (hr : ∀ x ∈ l, rightV deep x.2.val = 0) (hE : Env2 w B) (hB : B ≤ w.heap.size) :
    Calls Tryd.prog 28 #[.agg #[.int .i64 5, .int .i64 n, .string s, .slice da dn dc, .slice la l.length lc]] w (MakesB (leB 4 (((encD (l.map fun f => (f.1, f.2.val))).length + 5 : Nat) : Int) ++ encD (l.map fun f => (f.1, f.2.val)) ++ [0]) w) := by
  have b0 := below1 w (.cells #[.int .i64 5, .int .i64 n, .string s, .slice da dn dc, .slice la l.length lc] 25)
  have r0 := heap_alloc_new w (.cells #[.int .i64 5, .int .i64 n, .string s, .slice da dn dc, .slice la l.length lc] 25)
  have H0 := Lib.hid (RefBox.mk r0 b0)
  have HA := Lib.hid (And.intro ha (And.intro hr hE))
  have IH := Lib.hid ih
  have HL := Lib.hid hl
  clear b0 r0 ha ih hl hr hE
  go_enter Tryd.func28, Tryd.ntmps28
  go_wp2_with fail
  generalize w.alloc (.cells #[.int .i64 5, .int .i64 n, .string s, .slice da dn dc, .slice la l.length lc] 25) = w0 at H0 ⊢
  go_loopw [3, 4] (fun u i wr => ∃ k : Nat, k ≤ l.length ∧ i = .int .i64 k ∧ Grew w.heap.size w0 wr (.slice none 0 0) u (encD ((l.map fun f => (f.1, f.2.val)).take k))) (fun _ i _ => l.length - (intOf i).toNat)
  case atStart => exact ⟨0, by omega, rfl, by simpa [encD] using Grew.refl (OwnB.nil _ _)⟩
  case round =>
    obtain ⟨k, hk, rfl, hg⟩ := hrel
    obtain ⟨hbx, hoff⟩ := H0.out.grown hg
    have cb := row_cells hbx.box
    have HG := Lib.hid (And.intro hg (And.intro hbx hoff))
    have hin := HA.out.1.then_ hbx.below
    clear hg hbx hoff
    by_cases h1 : k < l.length
    · obtain ⟨b, o, f1, k1, n1, s1, la1, lc1, l1, da1, dc1, d1, rfl, hx, hix, x0, x1, x2, x3, x4, x5⟩ := hin.six h1
      have hvx : (l.map fun f => (f.1, f.2.val))[k]? = some (f1, T.val (.mk k1 n1 s1 la1 lc1 l1 da1 dc1 d1)) := by rw [List.getElem?_map, hx]; rfl
      have HR := Lib.hid (show (encD ((l.map fun f => (f.1, f.2.val)).take k)).length + (encF f1 (T.val (.mk k1 n1 s1 la1 lc1 l1 da1 dc1 d1))).length ≤ (encD (l.map fun f => (f.1, f.2.val))).length from encD_room hvx)
      have HS := Lib.hid (encD_step hvx)
      have H := Lib.hid (And.intro (IH.out _ (List.mem_of_getElem? hx)) (HA.out.2.1 _ (List.mem_of_getElem? hx)))
      have HX := Lib.hid hix
      have HXE := Lib.hid hx
      have hblt : b < wr.heap.size := cell_lt x0
      clear hx hix hin hvx
      have hbxlt : w.heap.size < wr.heap.size := lt_of_block HG.out.2.1.box
      go_wp2_with fail
      go_region_held3 (fun w' => w'.cell? ⟨w.heap.size, 4, none⟩ = some (.slice (some ⟨b, o, none⟩) l.length lc) ∧ w'.cell? ⟨b, o + k * 6, none⟩ = some (.string f1) ∧ w'.cell? ⟨b, o + k * 6 + 1, none⟩ = some (.int .i64 k1) ∧ w'.cell? ⟨b, o + k * 6 + 2, none⟩ = some (.int .i64 n1) ∧ w'.cell? ⟨b, o + k * 6 + 3, none⟩ = some (.string s1) ∧ w'.cell? ⟨b, o + k * 6 + 4, none⟩ = some (.slice la1 l1.length lc1) ∧ w'.cell? ⟨b, o + k * 6 + 5, none⟩ = some (.slice da1 d1.length dc1))
        (go_keep)
        (first
          | (go_at_call 40; refine (refField_any (.mk k1 n1 s1 la1 lc1 l1 da1 dc1 d1) H.out.1 f1 wr.drew deep B HX.out (by have := HL.out; have := HR.out; omega) H.out.2 (HA.out.2.2.then_ HG.out.2.1.below).drew (Nat.le_trans hB HG.out.2.1.below.size)).mono ?_; rintro e w2 ⟨v2, rfl, ho2, b2⟩; obtain ⟨a2, c2, rfl, hi2, h02, -, -⟩ := ho2.shape; have cb2 := row_cells (row_then HG.out.2.1.box (drop_drewB b2)); obtain ⟨-, z0, z1, z2, z3, z4, z5⟩ := ((HA.out.1.then_ HG.out.2.1.below).then_ (drop_drewB b2)).cells6 HXE.out; have H2 := Lib.hid (And.intro hi2 (And.intro h02 (drop_drewB b2))); clear ho2 hi2 h02 b2)
          | (refine stR rfl (.tmp 69) (.tmp 82) rfl w.heap.size _ _ rfl (HG.out.1.own.then_ H2.out.2.2) a2 _ c2 _ rfl rfl H2.out.1 H2.out.2.1 (by have := HL.out; have := HR.out; omega) (Nat.le_trans HG.out.2.1.below.size H2.out.2.2.size) ?_; intro v3 w3 hg3; have g3 := HG.out.1.trans (Grew.pre H2.out.2.2 hg3); have R3 := H0.out.grown g3; have cb3 := row_cells R3.1.box; obtain ⟨-, u0, u1, u2, u3, u4, u5⟩ := (HA.out.1.then_ R3.1.below).cells6 HXE.out; have G3 := Lib.hid g3; clear hg3 g3 R3))
      go_wp2_with fail
      go_roundw
      case rel =>
        refine ⟨k + 1, by omega, by go_num, ?_⟩
        rw [HS.out]
        exact G3.out
      case measure => simp [intOf]; omega
    · have hke : (l.map fun f => (f.1, f.2.val)).take k = l.map fun f => (f.1, f.2.val) := List.take_of_length_le (by rw [List.length_map]; omega)
      have hg2 := HG.out.1
      rw [hke] at hg2
      obtain ⟨au, cu, rfl, hiu, h0u, -, -⟩ := hg2.own.shape
      have HU := Lib.hid (And.intro hiu h0u)
      have hDl := HL.out
      clear hke hiu h0u hin
      generalize hDD : encD (l.map fun f => (f.1, f.2.val)) = D at *
      go_wp2_with (first
        | (go_at_call 39; refine (four_any _ (by omega) (by omega) _).mono ?_; rintro e w1 ⟨rfl, ho1, b1⟩; have H1 := Lib.hid (And.intro (OwnB.of_row ho1 (leB_len _ _)) b1); clear ho1 b1)
        | (at_builtin; refine apR rfl (.tmp 107) (.tmp 108) rfl wr.heap.size _ _ rfl H1.out.1 au _ cu D rfl rfl (HU.out.1.then_ H1.out.2) HU.out.2 (by rw [leB_len]; omega) H1.out.2.size ?_; intro v2 w2 hg2; have H2 := Lib.hid hg2; clear hg2)
        | (at_builtin; refine apL _ rfl (.tmp 110) (.tmp 111) rfl wr.heap.size _ _ rfl H2.out.own [0] _ 1 1 rfl rfl rfl rfl (by rw [List.length_append, leB_len]; omega) (Nat.le_trans H1.out.2.size H2.out.size) ?_; intro v3 w3 hg3; have H3 := Lib.hid (H2.out.trans hg3); clear hg3))
      go_ret
      have hb := H3.out.below H1.out.1 H1.out.2 (Nat.le_refl _) H1.out.2.size
      refine ⟨_, rfl, ?_, below_then HG.out.2.1.below hb⟩
      first
        | exact H3.out.own.base HG.out.2.1.below.size
        | (have h := H3.out.own.base HG.out.2.1.below.size; rw [← hDD] at h; exact h)
set_option maxHeartbeats 8000000 in
theorem refL_case (n : Int) (s : ByteArray) (la : Option Addr) (lc : Nat) (l : List T) (da : Option Addr) (dc dn : Nat) (w : World) (deep : Int) (B : Nat) (hl : (encL 0 (l.map T.val)).length + 5 ≤ 140737488350000) (ha : InL w la l) (hn : l.length ≤ 1759218604390) (ih : ∀ x ∈ l, RefEncAt x) (hr : ∀ x ∈ l, rightV deep x.val = 0) (hE : Env2 w B) (hB : B ≤ w.heap.size) :
    Calls Tryd.prog 28 #[.agg #[.int .i64 6, .int .i64 n, .string s, .slice la l.length lc, .slice da dn dc]] w (MakesB (leB 4 (((encL 0 (l.map T.val)).length + 5 : Nat) : Int) ++ encL 0 (l.map T.val) ++ [0]) w) := by
  have b0 := below1 w (.cells #[.int .i64 6, .int .i64 n, .string s, .slice la l.length lc, .slice da dn dc] 25)
  have r0 := heap_alloc_new w (.cells #[.int .i64 6, .int .i64 n, .string s, .slice la l.length lc, .slice da dn dc] 25)
  have H0 := Lib.hid (RefBox.mk r0 b0)
  have HA := Lib.hid (And.intro ha (And.intro hr hE))
  have IH := Lib.hid ih
  have HL := Lib.hid hl
  clear b0 r0 ha ih hl hr hE
  go_enter Tryd.func28, Tryd.ntmps28
  go_wp2_with fail
  generalize w.alloc (.cells #[.int .i64 6, .int .i64 n, .string s, .slice la l.length lc, .slice da dn dc] 25) = w0 at H0 ⊢
  go_loopw [3, 5] (fun u i wr => ∃ k : Nat, k ≤ l.length ∧ i = .int .i64 k ∧ Grew w.heap.size w0 wr (.slice none 0 0) u (encL 0 ((l.map T.val).take k))) (fun _ i _ => l.length - (intOf i).toNat)
  case atStart => exact ⟨0, by omega, rfl, by simpa [encL] using Grew.refl (OwnB.nil _ _)⟩
  case round =>
    obtain ⟨k, hk, rfl, hg⟩ := hrel
    obtain ⟨hbx, hoff⟩ := H0.out.grown hg
    have cb := row_cells hbx.box
    have HG := Lib.hid (And.intro hg (And.intro hbx hoff))
    have hin := HA.out.1.then_ hbx.below
    clear hg hbx hoff
    by_cases h1 : k < l.length
    · obtain ⟨b, o, k1, n1, s1, la1, lc1, l1, da1, dc1, d1, rfl, hx, hix, x0, x1, x2, x3, x4⟩ := hin.five h1
      have hvx : (l.map T.val)[k]? = some (T.val (.mk k1 n1 s1 la1 lc1 l1 da1 dc1 d1)) := by rw [List.getElem?_map, hx]; rfl
      have HR := Lib.hid (encL_room hvx)
      have HS := Lib.hid (encL_step hvx)
      have H := Lib.hid (And.intro (IH.out _ (List.mem_of_getElem? hx)) (HA.out.2.1 _ (List.mem_of_getElem? hx)))
      have HX := Lib.hid hix
      have HXE := Lib.hid hx
      have hblt : b < wr.heap.size := cell_lt x0
      clear hx hix hin hvx
      go_wp2_with fail
      have HIT := Lib.hid (itoa_any (w := wr.drew) (B := B) ((HA.out.2.2.then_ HG.out.2.1.below).drew) k (by omega))
      have hbxlt : w.heap.size < wr.heap.size := lt_of_block HG.out.2.1.box
      go_region_held3 (fun w' => w'.cell? ⟨w.heap.size, 3, none⟩ = some (.slice (some ⟨b, o, none⟩) l.length lc) ∧ w'.cell? ⟨b, o + k * 5, none⟩ = some (.int .i64 k1) ∧ w'.cell? ⟨b, o + k * 5 + 1, none⟩ = some (.int .i64 n1) ∧ w'.cell? ⟨b, o + k * 5 + 2, none⟩ = some (.string s1) ∧ w'.cell? ⟨b, o + k * 5 + 3, none⟩ = some (.slice la1 l1.length lc1) ∧ w'.cell? ⟨b, o + k * 5 + 4, none⟩ = some (.slice da1 d1.length dc1))
        (go_keep)
        (first
          | (go_at_call 41; refine HIT.out.mono ?_; rintro e w1 ⟨rfl, b1'⟩; have b1 := drop_drewB b1'; have cb1 := row_cells (row_then HG.out.2.1.box b1); obtain ⟨hi1, y0, y1, y2, y3, y4⟩ := ((HA.out.1.then_ HG.out.2.1.below).then_ b1).cells5 HXE.out; have H1 := Lib.hid (And.intro hi1 b1); clear b1' b1 hi1)
          | (go_at_call 40; refine (refField_any (.mk k1 n1 s1 la1 lc1 l1 da1 dc1 d1) H.out.1 (itoaB k) w1 deep B H1.out.1 (by have := HL.out; have := HR.out; omega) H.out.2 ((HA.out.2.2.then_ HG.out.2.1.below).then_ H1.out.2) (Nat.le_trans hB (Nat.le_trans HG.out.2.1.below.size H1.out.2.size))).mono ?_; rintro e w2 ⟨v2, rfl, ho2, b2⟩; obtain ⟨a2, c2, rfl, hi2, h02, -, -⟩ := ho2.shape; have cb2 := row_cells (row_then HG.out.2.1.box (below_then H1.out.2 b2)); obtain ⟨-, z0, z1, z2, z3, z4⟩ := ((HA.out.1.then_ HG.out.2.1.below).then_ (below_then H1.out.2 b2)).cells5 HXE.out; have H2 := Lib.hid (And.intro hi2 (And.intro h02 (below_then H1.out.2 b2))); clear ho2 hi2 h02 b2)
          | (refine stR rfl (.tmp 93) (.tmp 101) rfl w.heap.size _ _ rfl (HG.out.1.own.then_ H2.out.2.2) a2 _ c2 _ rfl rfl H2.out.1 H2.out.2.1 (by have := HL.out; have := HR.out; omega) (Nat.le_trans HG.out.2.1.below.size H2.out.2.2.size) ?_; intro v3 w3 hg3; have g3 := HG.out.1.trans (Grew.pre H2.out.2.2 hg3); have R3 := H0.out.grown g3; have cb3 := row_cells R3.1.box; obtain ⟨-, u0, u1, u2, u3, u4⟩ := (HA.out.1.then_ R3.1.below).cells5 HXE.out; have G3 := Lib.hid g3; clear hg3 g3 R3))
      go_wp2_with fail
      go_roundw
      case rel =>
        refine ⟨k + 1, by omega, by go_num, ?_⟩
        rw [HS.out]
        exact G3.out
      case measure => simp [intOf]; omega
    · have hke : (l.map T.val).take k = l.map T.val := List.take_of_length_le (by rw [List.length_map]; omega)
      have hg2 := HG.out.1
      rw [hke] at hg2
      obtain ⟨au, cu, rfl, hiu, h0u, -, -⟩ := hg2.own.shape
      have HU := Lib.hid (And.intro hiu h0u)
      have hDl := HL.out
      clear hke hiu h0u hin
      generalize hDD : encL 0 (l.map T.val) = D at *
      go_wp2_with (first
        | (go_at_call 39; refine (four_any _ (by omega) (by omega) _).mono ?_; rintro e w1 ⟨rfl, ho1, b1⟩; have H1 := Lib.hid (And.intro (OwnB.of_row ho1 (leB_len _ _)) b1); clear ho1 b1)
        | (at_builtin; refine apR rfl (.tmp 107) (.tmp 108) rfl wr.heap.size _ _ rfl H1.out.1 au _ cu D rfl rfl (HU.out.1.then_ H1.out.2) HU.out.2 (by rw [leB_len]; omega) H1.out.2.size ?_; intro v2 w2 hg2; have H2 := Lib.hid hg2; clear hg2)
        | (at_builtin; refine apL _ rfl (.tmp 110) (.tmp 111) rfl wr.heap.size _ _ rfl H2.out.own [0] _ 1 1 rfl rfl rfl rfl (by rw [List.length_append, leB_len]; omega) (Nat.le_trans H1.out.2.size H2.out.size) ?_; intro v3 w3 hg3; have H3 := Lib.hid (H2.out.trans hg3); clear hg3))
      go_ret
      have hb := H3.out.below H1.out.1 H1.out.2 (Nat.le_refl _) H1.out.2.size
      refine ⟨_, rfl, ?_, below_then HG.out.2.1.below hb⟩
      first
        | exact H3.out.own.base HG.out.2.1.below.size
        | (have h := H3.out.own.base HG.out.2.1.below.size; rw [← hDD] at h; exact h)
theorem refEnc_any (t : T) : t.ok → RefEncAt t := by
  induction t using T.ind with
  | h k n s la lc l da dc d ihl ihd =>
  intro ok w deep B hin hl hr hE hB
  obtain ⟨k0, k1, n0, n1, hs, hl1, hl2, hd1, hd2, okl, okd⟩ := ok.parts
  obtain ⟨inl, ind⟩ := hin.parts
  rw [T.val_mk] at hr
  obtain ⟨hk1, hk11⟩ := right_kind hr
  obtain ⟨hrl, hrd⟩ := right_lists hr
  obtain ⟨⟨-, hfits⟩, -, -⟩ := right_parts hr
  rw [T.val_mk, encV] at hl
  rw [T.val_mk, encV]
  show Calls _ _ #[.agg #[.int .i64 k, .int .i64 n, .string s, .slice la l.length lc, .slice da d.length dc]] _ _
  by_cases h3 : k = 3 ∨ k = 10
  · rw [if_pos h3] at hl ⊢
    exact refNum_case k n s la lc l.length da dc d.length h3 w
  rw [if_neg h3] at hl ⊢
  by_cases h4 : k = 4
  · rw [if_pos h4] at hl ⊢
    subst h4
    rw [List.length_append, List.length_append, leB_len, bsI_len, List.length_singleton] at hl
    exact refText_case n s la lc l.length da dc d.length w (by omega)
  rw [if_neg h4] at hl ⊢
  by_cases h7 : k = 7
  · rw [if_pos h7] at hl ⊢
    subst h7
    rw [List.length_append, List.length_append, leB_len, bsI_len, List.length_singleton] at hl
    exact refBlob_case n s la lc l.length da dc d.length w (by omega)
  rw [if_neg h7] at hl ⊢
  by_cases h8 : k = 8
  · rw [if_pos h8] at hl ⊢
    subst h8
    rw [bsI_len] at hl
    exact refId_case n s la lc l.length da dc d.length w hl
  rw [if_neg h8] at hl ⊢
  by_cases h9 : k = 9
  · rw [if_pos h9] at hl ⊢
    subst h9
    refine refBool_case n s la lc l.length da dc d.length w ?_
    rw [fitsV] at hfits
    simp at hfits
    omega
  rw [if_neg h9] at hl ⊢
  by_cases h5 : k = 5
  · rw [if_pos h5] at hl ⊢
    subst h5
    rw [List.length_append, List.length_append, leB_len, List.length_singleton] at hl
    exact refD_case n s da dc d la lc l.length w (deep + 1) B (by omega) ind (by omega) (fun x hx => ihd x hx (okd x hx).2) hrd hE hB
  rw [if_neg h5] at hl ⊢
  by_cases h6 : k = 6
  · rw [if_pos h6] at hl ⊢
    subst h6
    rw [List.length_append, List.length_append, leB_len, List.length_singleton] at hl
    exact refL_case n s la lc l da dc d.length w (deep + 1) B (by omega) inl (by omega) (fun x hx => ihl x hx (okl x hx)) hrl hE hB
  rw [if_neg h6] at hl ⊢
  exact refPlain_case k n s la lc l.length da dc d.length (by omega) w
end Go.Proofs.YtjhmmkfhbiikdaaDoor
