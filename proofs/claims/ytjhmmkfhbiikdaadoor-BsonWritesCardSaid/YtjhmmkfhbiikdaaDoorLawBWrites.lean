/- The law BsonWrites over its contracts. No statement is proved here. -/
import Derived.Test.YtjhmmkfhbiikdaaDoorBAwake
import Derived.Test.YtjhmmkfhbiikdaaDoorBOwn
import Derived.Test.YtjhmmkfhbiikdaaDoorBRef
import Derived.Test.YtjhmmkfhbiikdaaDoorKeptP
import Derived.Test.YtjhmmkfhbiikdaaDoorKept
import Derived.Test.YtjhmmkfhbiikdaaDoorLent
namespace Go.Proofs.YtjhmmkfhbiikdaaDoor
open Go.RowKit
set_option maxRecDepth 100000

theorem In.apartB {w w' : World} {t x : T} {B : Nat} (h : t.In w) (hm : x.Marked w' B) (hB : w.heap.size ≤ B) : ∀ p ∈ t.places, p.1.block ∉ blocksOf x.mrows := fun p hp hc => by
  have h1 := cell_lt (h p hp)
  have h2 := (owns_lt hm.owns _ hc).1
  omega
theorem encOf_len (v : V) : (encOf v).2.length ≤ 65536 := by
  obtain ⟨k, n, s, l, d⟩ := v
  rw [encOf]
  split
  · rename_i hk
    split
    · rename_i hr
      obtain ⟨-, -, -, -, h⟩ := right_doc (v := .mk k n s l d) hk hr
      exact h
    · simp
  · simp
set_option maxHeartbeats 4000000 in
theorem refEncode_any (t : T) (ok : t.ok) (w : World) (hin : t.In w) {B : Nat} (hE : Env2 w B) (hB : B ≤ w.heap.size) : Calls Tryd.prog 12 #[t.arg] w (EncTo (encOf t.val) w) := by
  obtain ⟨k, n, s, la, lc, l, da, dc, d⟩ := t
  have HI := Lib.hid (And.intro ok (And.intro hin (hE.mono hB)))
  show Calls _ _ #[.agg #[.int .i64 k, .int .i64 n, .string s, .slice la l.length lc, .slice da d.length dc]] _ _
  clear ok hin hE hB
  by_cases h5 : k = 5
  · subst h5
    have b1 := below1 w (.cells #[.int .i64 5, .int .i64 n, .string s, .slice la l.length lc, .slice da d.length dc] 25)
    have hbx := heap_alloc_new w (.cells #[.int .i64 5, .int .i64 n, .string s, .slice la l.length lc, .slice da d.length dc] 25)
    have HR := Lib.hid (fun W (hW : Below w.heap.size w W) => refRight_any (.mk 5 n s la lc l da dc d) HI.out.1 W (HI.out.2.1.then_ hW) (HI.out.2.2.then_ hW).tabs)
    have HB := Lib.hid (And.intro b1 hbx)
    clear b1 hbx
    go_enter Tryd.func12, Tryd.ntmps12
    go_wp2_with fail
    refine (HR.out _ HB.out.1).mono ?_
    rintro e w1 ⟨rfl, b1⟩
    have hbx := row_then HB.out.2 b1
    have c1 := row_cells hbx
    have HB1 := Lib.hid (And.intro (below_then HB.out.1 b1) hbx)
    clear b1 hbx
    by_cases hr : rightOf (T.val (.mk 5 n s la lc l da dc d)) = 0
    · obtain ⟨d', hv, hrv, hlen, hmax⟩ := right_doc (v := T.val (.mk 5 n s la lc l da dc d)) (by rw [T.val_mk]; rfl) hr
      have HV := Lib.hid (And.intro hr (And.intro hrv hmax))
      rw [hr]
      clear hr hv hrv hmax hlen
      go_wp2_with fail
      refine (refEnc_any (.mk 5 n s la lc l da dc d) HI.out.1 w1 1 w.heap.size (HI.out.2.1.then_ HB1.out.1) (by have := HV.out.2.2; omega) HV.out.2.1 (HI.out.2.2.then_ HB1.out.1) HB1.out.1.size).mono ?_
      rintro e w2 ⟨v2, rfl, ho2, b2⟩
      have H2 := Lib.hid (And.intro (ho2.base (B' := w.heap.size) HB1.out.1.size) (below_then HB1.out.1 b2))
      clear ho2 b2
      go_wp2_with fail
      go_ret2
      have he : encOf (T.val (.mk 5 n s la lc l da dc d)) = (0, encV (T.val (.mk 5 n s la lc l da dc d))) := by
        have hr := HV.out.1
        rw [T.val_mk] at hr ⊢
        rw [encOf, if_pos rfl, if_pos hr]
      refine ⟨v2, by rw [he]; rfl, ?_, H2.out.2⟩
      rw [he]
      exact H2.out.1
    · have hrb : (rightOf (T.val (.mk 5 n s la lc l da dc d)) != 0) = true := by simpa using hr
      go_wp2_with fail
      go_ret2
      refine ⟨.slice none 0 0, ?_, ?_, HB1.out.1⟩
      · rw [T.val_mk, encOf, if_pos rfl, if_neg (by rw [T.val_mk] at hr; exact hr)]; rfl
      · rw [T.val_mk, encOf, if_pos rfl, if_neg (by rw [T.val_mk] at hr; exact hr)]
        exact OwnB.nil _ _
  · have hb : (k != 5) = true := by simpa using h5
    have HK := Lib.hid h5
    clear h5
    go_enter Tryd.func12, Tryd.ntmps12
    go_wp2_with fail
    go_ret2
    refine ⟨.slice none 0 0, ?_, ?_, below1 _ _⟩
    · rw [T.val_mk, encOf, if_neg HK.out]; rfl
    · rw [T.val_mk, encOf, if_neg HK.out]
      exact OwnB.nil _ _
set_option maxHeartbeats 8000000 in
theorem bwrites_law (t : T) (w : World) (ok : t.ok) (hin : t.In w) {B : Nat} (hE : Env2 w B) (hBw : B ≤ w.heap.size) :
    Calls Tryd.prog 3 #[t.arg] w fun e w' => e = .returned (.bool true) ∧ Below w.heap.size w w' := by
  have LT := Lib.hid (lent_any t ok)
  have KT := Lib.hid (fun x : T => kept_any x t)
  have RT := Lib.hid (refEncode_any t ok)
  have HA := Lib.hid hin
  have HE := Lib.hid (hE.mono hBw)
  have OA := Lib.hid ok
  have hlen := encOf_len t.val
  obtain ⟨k, n, s, la, lc, l, da, dc, d⟩ := t
  show Calls _ _ #[.agg #[.int .i64 k, .int .i64 n, .string s, .slice la l.length lc, .slice da d.length dc]] _ _
  have b0 := below1 w (.cells #[.int .i64 k, .int .i64 n, .string s, .slice la l.length lc, .slice da d.length dc] 25)
  have r0 := heap_alloc_new w (.cells #[.int .i64 k, .int .i64 n, .string s, .slice la l.length lc, .slice da d.length dc] 25)
  have H0 := Lib.hid (And.intro b0 r0)
  clear ok hin hE hBw b0 r0
  go_enter Tryd.func3, Tryd.ntmps3
  go_wp2_with fail
  refine (awake02_any _ (HE.out.then_ H0.out.1) H0.out.1.size).mono ?_
  rintro e w1 ⟨rfl, b1⟩
  have r1 := row_then H0.out.2 b1
  have fa := row_cells r1
  have H1 := Lib.hid (And.intro (below_then H0.out.1 b1) r1)
  have hz1 := lt_of_block r1
  clear b1 r1 H0
  go_wp2_with fail
  refine (LT.out w1 (HA.out.then_ H1.out.1)).mono ?_
  rintro e w2 ⟨x, rfl, vx, mx, b2⟩
  obtain ⟨kx, nx, tx, lax, lcx, lx, dax, dcx, dx⟩ := x
  dsimp only [T.arg, T.cells]
  have VX := Lib.hid vx
  have z2 := b2.size
  have OX := Lib.hid mx.ok
  have SX := Lib.hid (fun b hb => owns_lt mx.owns b hb)
  have X2 := below1 w2 (.cells #[.int .i64 kx, .int .i64 nx, .string tx, .slice lax lx.length lcx, .slice dax dx.length dcx] 25)
  have bx := heap_alloc_new w2 (.cells #[.int .i64 kx, .int .i64 nx, .string tx, .slice lax lx.length lcx, .slice dax dx.length dcx] 25)
  have MX := Lib.hid (And.intro (mx.below X2) (And.intro bx (And.intro (row_then H1.out.2 (below_then b2 X2)) (below_then H1.out.1 (below_then b2 X2)))))
  have EX := Lib.hid (show encOf (T.val (.mk kx nx tx lax lcx lx dax dcx dx)) = encOf (T.val (.mk k n s la lc l da dc d)) by rw [vx])
  clear fa vx mx b2 X2 bx
  go_wp2_with fail
  refine (encode_any (.mk kx nx tx lax lcx lx dax dcx dx) OX.out _ MX.out.1.in_ (HE.out.then_ MX.out.2.2.2) MX.out.2.2.2.size).mono ?_
  rintro e w3 ⟨v3, rfl, ho3, b3⟩
  rw [EX.out] at ho3 ⊢
  rw [World.size_alloc] at ho3
  have z3 := b3.size
  rw [World.size_alloc] at z3
  have M3 := Lib.hid (And.intro (MX.out.1.below b3) (And.intro (row_then MX.out.2.1 b3) (And.intro (row_then MX.out.2.2.1 b3) (below_then MX.out.2.2.2 b3))))
  have A3 := Lib.hid ho3
  have fx := row_cells M3.out.2.1
  clear MX ho3 b3
  go_wp2_with fail
  refine (encode_any (.mk kx nx tx lax lcx lx dax dcx dx) OX.out w3 M3.out.1.in_ (HE.out.then_ M3.out.2.2.2) M3.out.2.2.2.size).mono ?_
  rintro e w4 ⟨v4, rfl, ho4, b4⟩
  rw [EX.out] at ho4 ⊢
  have z4 := b4.size
  have D4 := Lib.hid (show ∀ g, v3.ownBlock = some g → v4.ownBlock ≠ some g from fun g h1 h2 => by have := A3.out.block g h1; have := ho4.block g h2; omega)
  have A4 := Lib.hid (A3.out.then_ b4)
  have B4 := Lib.hid (ho4.base (B' := w2.heap.size + 1) (by omega))
  have M4 := Lib.hid (And.intro (M3.out.1.below b4) (And.intro (row_then M3.out.2.1 b4) (And.intro (row_then M3.out.2.2.1 b4) (below_then M3.out.2.2.2 b4))))
  clear fx M3 A3 ho4 b4
  have fx := row_cells M4.out.2.1
  have fa := row_cells M4.out.2.2.1
  go_wp2_with fail
  refine (KT.out (.mk kx nx tx lax lcx lx dax dcx dx) _ w4 M4.out.1 OA.out (HA.out.then_ M4.out.2.2.2) (In.apartB HA.out M4.out.1 (by omega)) VX.out).mono ?_
  rintro e w5 ⟨rfl, o5⟩
  have z5 := o5.size
  have hrange := fun b (hb : b ∈ blocksOf (T.mrows (.mk kx nx tx lax lcx lx dax dcx dx))) => SX.out b hb
  have A5 := Lib.hid (A4.out.only o5 (fun b hb => by have := hrange b hb; omega))
  have B5 := Lib.hid (B4.out.only o5 (fun b hb => by have := hrange b hb; omega))
  have R5 := keep_row o5 M4.out.2.2.1 (fun hb => by have := hrange _ hb; omega)
  have BW5 := Lib.hid (((Only.of_below (S := []) M4.out.2.2.2).then_ o5 (fun b hb => .inr (by have := hrange b hb; omega))).below)
  clear fx fa A4 B4 M4 hrange o5
  have fa := row_cells R5
  go_wp2_with fail
  refine (RT.out w5 (HA.out.then_ BW5.out) (HE.out.then_ BW5.out) BW5.out.size).mono ?_
  rintro e w6 ⟨vr, rfl, or_, b6⟩
  have z6 := b6.size
  obtain ⟨⟨kk, xx⟩, hk⟩ : ∃ p, encOf (T.val (.mk k n s la lc l da dc d)) = p := ⟨_, rfl⟩
  rw [hk] at A5 B5 or_ hlen ⊢
  clear hk EX fa R5
  dsimp only at A5 B5 or_ hlen ⊢
  have A6 := Lib.hid (A5.out.then_ b6)
  have B6 := Lib.hid (B5.out.then_ b6)
  obtain ⟨aa, ac, rfl, ia, -, -, -⟩ := A6.out.shape
  obtain ⟨ba, bc, rfl, ib, -, -, -⟩ := B6.out.shape
  obtain ⟨ra, rc, rfl, ir, -, -, -⟩ := or_.shape
  have I6 := Lib.hid (And.intro ia (And.intro ib (And.intro ir (below_then BW5.out b6))))
  clear ia ib ir or_ b6 A5 B5 BW5
  go_wp2_with fail
  refine (bsame_any aa ra ac rc xx.length xx.length xx xx w6 rfl rfl I6.out.1 I6.out.2.2.1 (by omega)).mono ?_
  rintro e w7 ⟨rfl, b7⟩
  simp only [decide_true]
  have z7 := b7.size
  have A7 := Lib.hid (A6.out.then_ b7)
  have B7 := Lib.hid (B6.out.then_ b7)
  have I7 := Lib.hid (And.intro (I6.out.2.1.then_ b7) (And.intro (I6.out.2.2.1.then_ b7) (below_then I6.out.2.2.2 b7)))
  clear b7 A6 B6 I6
  go_wp2_with fail
  refine (bsame_any ba ra bc rc xx.length xx.length xx xx w7 rfl rfl I7.out.1 I7.out.2.1 (by omega)).mono ?_
  rintro e w8 ⟨rfl, b8⟩
  simp only [decide_true]
  have z8 := b8.size
  have A8 := Lib.hid (A7.out.then_ b8)
  have B8 := Lib.hid (B7.out.then_ b8)
  have BW8 := Lib.hid (below_then I7.out.2.2 b8)
  clear b8 A7 B7 I7
  go_wp2_with fail
  refine (owned_any (w2.heap.size + 1) (.slice aa xx.length ac) (.slice ba xx.length bc) xx xx w8 A8.out B8.out D4.out (by omega) (by omega) (by omega)).mono ?_
  rintro e w9 ⟨rfl, b9⟩
  have HB := Lib.hid (BW8.out.trans (b9.mono (show w.heap.size ≤ w2.heap.size + 1 by omega)))
  clear b9
  go_wp2_with fail
  go_ret
  exact ⟨ret_bool (by simp), HB.out⟩
end Go.Proofs.YtjhmmkfhbiikdaaDoor
