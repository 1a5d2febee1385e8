/- The document's own reader of layer 2: Read, Decode; the law BsonReads over its contracts. No statement is proved here. -/
import Derived.Test.YtjfgmcmnpekahaaDoorW8
import Derived.Test.YtjfgmcmnpekahaaDoorBReadW
import Derived.Test.YtjfgmcmnpekahaaDoorLawForm
import Derived.Test.YtjfgmcmnpekahaaDoorBAll
import Derived.Test.YtjfgmcmnpekahaaDoorBOwn
namespace Go.Proofs.YtjfgmcmnpekahaaDoor
open Go.RowKit
set_option maxRecDepth 100000

theorem rest_all {a : Option Addr} {c i : Nat} {bs : List Int} : (Byt.rest ⟨a, c, bs⟩ i bs.length) = bs.drop i := by show (bs.drop i).take (bs.length - i) = bs.drop i; exact List.take_of_length_le (by rw [List.length_drop]; exact Nat.le_refl _)
theorem readF_bad {n i : Nat} {bs : List Int} {c q : Int} (hi : i ≤ bs.length) (h : docF n false 1 (bs.drop i) i = .bad c q) : readF n bs i = .bad c q := by
  unfold readF
  rw [if_neg (by omega), Int.toNat_natCast, h]
theorem readF_ok {n i m : Nat} {bs : List Int} {d : List (ByteArray × V)} (hi : i ≤ bs.length) (h : docF n false 1 (bs.drop i) i = .ok d m) : readF n bs i = .ok (.mk 5 0 ⟨#[]⟩ [] d) (i + m) := by
  unfold readF
  rw [if_neg (by omega), Int.toNat_natCast, h]
set_option maxHeartbeats 8000000 in
theorem RRd_any (a : Option Addr) (c : Nat) (bs : List Int) (p : Int) (n : Nat) (hD : RDocAt n) (w : World) (hin : InB w a bs) (hc : bs.length ≤ c) (hfar : bs.length ≤ 140737488351232) (hby : isB bs) (hlow : ∀ b o, a = some ⟨b, o, none⟩ → 1 ≤ bs.length → b < w.heap.size) {B : Nat} (hE : Env2 w B) (hB : B ≤ w.heap.size) (hn : bs.length + 2 ≤ n) :
    Calls Tryd.prog 15 #[.slice a bs.length c, .int .i64 p] w (RdTo (readF n bs p) placeA w) := by
  have HI := Lib.hid hin
  have HE := Lib.hid hE
  have HD := Lib.hid hD
  have HN := Lib.hid hn
  have HL := Lib.hid hlow
  have HBY := Lib.hid hby
  have HFA := Lib.hid hfar
  clear hin hE hD hn hlow hby hfar
  go_enter Tryd.func15, Tryd.ntmps15
  go_wp2_with fail
  · have hx : readF n bs p = .bad 1 (-1) := by unfold readF; rw [if_pos (by assumption)]
    simp [bodyPost, results, Tryd.results15, go_sem, RdTo, hx, placeA]
    exact below2 _ _ _
  · rename_i hp0 hpr _ _
    have hb3 := three_new w (.cells #[.int .i64 0, .int .i64 0, .string ⟨#[]⟩, .slice none 0 0, .slice none 0 0] 25) (.cells #[.int .i64 0, .int .i64 0] 36) (.cells #[.slice a bs.length c, .int .i64 p, .int .i64 0, .int .i64 0] 56)
    generalize hU : ((w.alloc (.cells #[.int .i64 0, .int .i64 0, .string ⟨#[]⟩, .slice none 0 0, .slice none 0 0] 25)).alloc (.cells #[.int .i64 0, .int .i64 0] 36)).alloc (.cells #[.slice a bs.length c, .int .i64 p, .int .i64 0, .int .i64 0] 56) = U at hb3 ⊢
    obtain ⟨b3, y0, y1, y2⟩ := hb3
    obtain ⟨i, rfl⟩ : ∃ i : Nat, p = i := ⟨p.toNat, by omega⟩
    have hil : i ≤ bs.length := by omega
    have hC : RCur U (w.heap.size + 1 + 1) ⟨a, c, bs⟩ i 0 0 := ⟨y2, HI.out.then_ b3, (fun b o e h1 => by have := HL.out b o e h1; omega), hc, HFA.out, HBY.out⟩
    have HEU := Lib.hid (HE.out.then_ b3)
    have HY := Lib.hid (And.intro y0 (And.intro y1 y2))
    have HB := Lib.hid b3
    have HC := Lib.hid hC
    clear hU b3 y0 y1 y2 hC
    have hdoc := HD.out U (w.heap.size + 1 + 1) ⟨a, c, bs⟩ i bs.length 1 B false HC.out hil (Nat.le_refl _) (by omega) (by omega) HEU.out (by omega) (by have hnn := HN.out; omega)
    rw [rest_all] at hdoc
    refine hdoc.mono ?_
    intro e w3 hr
    obtain ⟨da, dc, ts, c', q', j', rfl, ht, hcur, ho, hcase⟩ := hr.both
    have x0 := keep_row ho HY.out.1 (by simp; omega)
    have x1 := keep_row ho HY.out.2.1 (by simp)
    have kg := row_cells hcur.row
    have k0 := row_cells x0
    have k1 := row_cells x1
    have z0 := rowf x0
    have z1 := rowf x1
    have HX := Lib.hid (And.intro x0 x1)
    have HO := Lib.hid ((Only.of_below HB.out).then_ ho (S := []) (by simp; omega))
    have HT := Lib.hid ht
    have HIL := Lib.hid hil
    have hlz := lt_of_block HY.out.2.2
    have HLZ := Lib.hid hlz
    clear x0 x1 ho hr hdoc ht hcur hlz hil
    rcases hcase with ⟨hres, h0⟩ | ⟨m, hres, rfl, rfl, rfl⟩
    · have HR := Lib.hid hres
      have hcb : (c' != 0) = true := by simpa using h0
      clear hres h0
      go_wp2_with fail
      go_region_law (fail)
      all_goals
        generalize hV : World.setCell _ _ _ = V
        obtain ⟨t1, t2, t3⟩ := two_laid HX.out.1 HX.out.2 (by omega) hV.symm
        replace t1 := t1.drew
        replace t2 : V.drew.heap[w.heap.size]? = _ := t2
        replace t3 : V.drew.heap[w.heap.size + 1]? = _ := t3
        have q0 := row_cells t2
        have q1 := row_cells t3
        have hO := HO.out.then_ t1 (S := []) (by simp)
        have HH := Lib.hid (And.intro hO t1)
        clear hV t1 t2 t3 k0 k1 z0 z1 kg hO
        dsimp only [Exit.then]
        go_wp2_with fail
        simp [bodyPost, results, Tryd.results15, go_sem, q0, q1]
        refine ⟨HH.out.1.below, ?_⟩
        rw [readF_bad HIL.out HR.out]
        rfl
    · have HR := Lib.hid hres
      clear hres
      go_wp2_with fail
      go_region_law (fail)
      all_goals
        generalize hV : World.setCell _ _ _ = V
        obtain ⟨t1, t2, t3⟩ := two_laid HX.out.1 HX.out.2 (by omega) hV.symm
        replace t1 := t1.drew
        replace t2 : V.drew.heap[w.heap.size]? = _ := t2
        replace t3 : V.drew.heap[w.heap.size + 1]? = _ := t3
        have q0 := row_cells t2
        have q1 := row_cells t3
        have hO := HO.out.then_ t1 (S := []) (by simp)
        have HH := Lib.hid (And.intro hO t1)
        clear hV t1 t2 t3 k0 k1 z0 z1 kg hO
        dsimp only [Exit.then]
        go_wp2_with fail
        simp [bodyPost, results, Tryd.results15, go_sem, q0, q1]
        refine ⟨HH.out.1.below, ?_⟩
        rw [readF_ok HIL.out HR.out]
        have hlz := HLZ.out
        refine ⟨T.mk 5 0 ⟨#[]⟩ none 0 [] da dc ts, ?_, by rw [T.val_mk]; rfl, HT.out.keep HH.out.2 (by intro b hb; simp at hb; omega) (by omega)⟩
        simp [placeA, T.arg, T.cells]
  · have hx : readF n bs p = .bad 1 (-1) := by unfold readF; rw [if_pos (by left; assumption)]
    simp [bodyPost, results, Tryd.results15, go_sem, RdTo, hx, placeA]
    exact below2 _ _ _
end Go.Proofs.YtjfgmcmnpekahaaDoor
namespace Go.Proofs.YtjfgmcmnpekahaaDoor
open Go.RowKit
set_option maxRecDepth 100000

set_option maxHeartbeats 4000000 in
theorem RDec_any (a : Option Addr) (c : Nat) (bs : List Int) (n : Nat) (hD : RDocAt n) (w : World) (hin : InB w a bs) (hc : bs.length ≤ c) (hfar : bs.length ≤ 140737488351232) (hby : isB bs) (hlow : ∀ b o, a = some ⟨b, o, none⟩ → 1 ≤ bs.length → b < w.heap.size) {B : Nat} (hE : Env2 w B) (hB : B ≤ w.heap.size) (hn : bs.length + 2 ≤ n) :
    Calls Tryd.prog 16 #[.slice a bs.length c] w (RdTo (decF n bs) placeN w) := by
  have HR := Lib.hid (fun (U : World) (hb : Below w.heap.size w U) => RRd_any a c bs 0 n hD U (hin.then_ hb) hc hfar hby (fun b o h1 h2 => by have := hlow b o h1 h2; have := hb.size; omega) (hE.then_ hb) (by have := hb.size; omega) hn)
  have HW := Lib.hid (fun (c' q : Int) (h : readF n bs 0 = .bad c' q) => show c' ≠ 0 by
    unfold readF at h
    rw [if_neg (by omega)] at h
    rcases hd : docF n false 1 (bs.drop (0 : Int).toNat) 0 with ⟨c2, q2⟩ | ⟨d, m⟩
    · rw [hd] at h
      have := (where_all n).1 false 1 _ 0 c2 q2 (by simpa using hby) (by simpa using hn) hd
      injection h with h1 h2
      omega
    · rw [hd] at h; cases h)
  clear hin hE hD hn hlow hby
  go_enter Tryd.func16, Tryd.ntmps16
  go_wp2_with fail
  · have hx : decF n bs = .bad 2 (-1) := by unfold decF; rw [if_pos (by omega)]
    simp [bodyPost, results, Tryd.results16, go_sem, RdTo, hx, placeN]
    exact below2 _ _ _
  · have b2 := below2 w (.cells #[.int .i64 0, .int .i64 0, .string ⟨#[]⟩, .slice none 0 0, .slice none 0 0] 25) (.cells #[.int .i64 0, .int .i64 0] 36)
    have y0 := heap_alloc2_old w (.cells #[.int .i64 0, .int .i64 0, .string ⟨#[]⟩, .slice none 0 0, .slice none 0 0] 25) (.cells #[.int .i64 0, .int .i64 0] 36)
    have y1 := heap_alloc_new (w.alloc (.cells #[.int .i64 0, .int .i64 0, .string ⟨#[]⟩, .slice none 0 0, .slice none 0 0] 25)) (.cells #[.int .i64 0, .int .i64 0] 36)
    rw [heap_size_alloc] at y1
    generalize (w.alloc (.cells #[.int .i64 0, .int .i64 0, .string ⟨#[]⟩, .slice none 0 0, .slice none 0 0] 25)).alloc (.cells #[.int .i64 0, .int .i64 0] 36) = U at b2 y0 y1 ⊢
    have HY := Lib.hid (And.intro y0 y1)
    have HB := Lib.hid b2
    clear b2 y0 y1
    refine (HR.out U HB.out).mono ?_
    rintro e w3 ⟨hb, hres⟩
    have x0 := row_then HY.out.1 hb
    have x1 := row_then HY.out.2 hb
    have k0 := row_cells x0
    have k1 := row_cells x1
    have z0 := rowf x0
    have z1 := rowf x1
    have HX := Lib.hid (And.intro x0 x1)
    have HBB := Lib.hid (HB.out.trans (hb.mono HB.out.size))
    clear hb x0 x1
    rcases hT : readF n bs 0 with ⟨c', q⟩ | ⟨v, m⟩
    · rw [hT] at hres
      dsimp only at hres
      obtain rfl := hres
      dsimp only [placeA]
      have hc0 := HW.out c' q hT
      go_wp2_with fail
      clear k0 k1 z0 z1
      have hb2 := below2 w3 (.cells #[.int .i64 0, .int .i64 0, .string ⟨#[]⟩, .slice none 0 0, .slice none 0 0] 25) (.cells #[.int .i64 c', .int .i64 q] 36)
      have y1 := heap_alloc_new (w3.alloc (.cells #[.int .i64 0, .int .i64 0, .string ⟨#[]⟩, .slice none 0 0, .slice none 0 0] 25)) (.cells #[.int .i64 c', .int .i64 q] 36)
      rw [heap_size_alloc] at y1
      generalize (w3.alloc (.cells #[.int .i64 0, .int .i64 0, .string ⟨#[]⟩, .slice none 0 0, .slice none 0 0] 25)).alloc (.cells #[.int .i64 c', .int .i64 q] 36) = Y at hb2 y1 ⊢
      have x0 := row_then HX.out.1 hb2
      have x1 := row_then HX.out.2 hb2
      have k0 := row_cells x0
      have k1 := row_cells x1
      have z0 := rowf x0
      have z1 := rowf x1
      have k3 := row_cells y1
      have l0 := lt_of_block HX.out.1
      have l1 := lt_of_block HX.out.2
      have e0 : w.heap.size ≠ w3.heap.size + 1 := by omega
      have e1 : w.heap.size + 1 ≠ w3.heap.size + 1 := by omega
      have HZ := Lib.hid (And.intro x0 (And.intro x1 (HBB.out.trans (hb2.mono HBB.out.size))))
      clear x0 x1 hb2 l0 l1 y1
      generalize w3.heap.size + 1 = H3 at k3 e0 e1
      go_region_law (fail)
      all_goals
        generalize hV : World.setCell _ _ _ = V
        obtain ⟨s0, s1, s2⟩ := HZ.out
        obtain ⟨t1, t2, t3⟩ := two_laid s0 s1 (by omega) hV.symm
        have q0 := row_cells (show V.drew.heap[w.heap.size]? = _ from t2)
        have q1 := row_cells (show V.drew.heap[w.heap.size + 1]? = _ from t3)
        have HV := Lib.hid (And.intro ((Only.of_below s2).then_ t1.drew (S := []) (by simp)) t1.drew)
        clear hV t1 t2 t3 k0 k1 k3 z0 z1 s0 s1 s2 e0 e1
        go_wp2_with fail
        simp [bodyPost, results, Tryd.results16, go_sem, q0, q1]
        refine ⟨HV.out.1.below, ?_⟩
        unfold decF
        rw [if_neg (by omega), hT]
        rfl
    · rw [hT] at hres
      obtain ⟨t, rfl, ht, hto⟩ := hres
      have HT := Lib.hid (And.intro ht hto)
      clear ht hto
      obtain ⟨kk, kn, ks, la, ll, lc, da, dl, dc, hta⟩ : ∃ (kk kn : Int) (ks : ByteArray) (la : Option Addr) (ll lc : Nat) (da : Option Addr) (dl dc : Nat), t.arg = .agg #[.int .i64 kk, .int .i64 kn, .string ks, .slice la ll lc, .slice da dl dc] := by
        cases t
        exact ⟨_, _, _, _, _, _, _, _, _, rfl⟩
      have HTA := Lib.hid hta
      rw [hta]
      clear hta
      dsimp only [placeA]
      have l0 := lt_of_block HX.out.1
      have l1 := lt_of_block HX.out.2
      have e0 : w.heap.size ≠ w3.heap.size := by omega
      have e1 : w.heap.size + 1 ≠ w3.heap.size := by omega
      have e2 : w.heap.size ≠ w3.heap.size + 1 := by omega
      have e3 : w.heap.size + 1 ≠ w3.heap.size + 1 := by omega
      go_wp2_with fail
      · generalize hV : World.setCell _ _ _ = V
        obtain ⟨t1, t2, t3⟩ := two_laid HX.out.1 HX.out.2 (by omega) hV.symm
        have hb2 := below2 V (.cells #[.int .i64 kk, .int .i64 kn, .string ks, .slice la ll lc, .slice da dl dc] 25) (.cells #[.int .i64 0, .int .i64 0] 36)
        generalize (V.alloc (.cells #[.int .i64 kk, .int .i64 kn, .string ks, .slice la ll lc, .slice da dl dc] 25)).alloc (.cells #[.int .i64 0, .int .i64 0] 36) = Y at hb2 ⊢
        have q0 := row_cells (row_then t2 hb2)
        have q1 := row_cells (row_then t3 hb2)
        have o1 : Only [w.heap.size, w.heap.size + 1] w3 Y := t1.trans (Only.of_below hb2)
        have HV := Lib.hid (And.intro ((Only.of_below HBB.out).then_ o1 (S := []) (by simp)) o1)
        clear hV t1 t2 t3 hb2 o1 k0 k1 z0 z1 l0 l1 e0 e1 e2 e3
        simp [bodyPost, results, Tryd.results16, go_sem, q0, q1]
        refine ⟨HV.out.1.below, ?_⟩
        unfold decF
        rw [if_neg (by omega), hT]
        dsimp only
        rw [if_pos (by assumption)]
        rfl
      · generalize hV : World.setCell _ _ _ = V
        obtain ⟨t1, t2, t3⟩ := two_laid HX.out.1 HX.out.2 (by omega) hV.symm
        have hb2 := below2 V (.cells #[.int .i64 kk, .int .i64 kn, .string ks, .slice la ll lc, .slice da dl dc] 25) (.cells #[.int .i64 0, .int .i64 0] 36)
        generalize (V.alloc (.cells #[.int .i64 kk, .int .i64 kn, .string ks, .slice la ll lc, .slice da dl dc] 25)).alloc (.cells #[.int .i64 0, .int .i64 0] 36) = Y at hb2 ⊢
        have q0 := row_cells (row_then t2 hb2)
        have q1 := row_cells (row_then t3 hb2)
        have o1 : Only [w.heap.size, w.heap.size + 1] w3 Y := t1.trans (Only.of_below hb2)
        have HV := Lib.hid (And.intro ((Only.of_below HBB.out).then_ o1 (S := []) (by simp)) o1)
        clear hV t1 t2 t3 hb2 o1 k0 k1 z0 z1 l0 l1 e0 e1 e2 e3
        simp [bodyPost, results, Tryd.results16, go_sem, q0, q1]
        refine ⟨HV.out.1.below, ?_⟩
        unfold decF
        rw [if_neg (by omega), hT]
        dsimp only
        rw [if_neg (by assumption)]
        have hl := lt_of_block HY.out.2
        refine ⟨t, ?_, HT.out.1, HT.out.2.keep HV.out.2 (by intro b hb; simp at hb; omega) (by omega)⟩
        rw [HTA.out]
        simp [placeN]
end Go.Proofs.YtjfgmcmnpekahaaDoor
namespace Go.Proofs.YtjfgmcmnpekahaaDoor
open Go.RowKit
set_option maxRecDepth 100000

def valRes : Res V → V
  | .bad _ _ => .mk 0 0 ⟨#[]⟩ [] []
  | .ok v _ => v
def endRes : Res V → Nat
  | .bad _ _ => 0
  | .ok _ m => m
def codeRes : Res V → Int
  | .bad c _ => c
  | .ok _ _ => 0
def atRes : Res V → Int
  | .bad _ q => q
  | .ok _ _ => 0
/-- Both outcomes of a reader in one form. -/
theorem RdTo.both {res : Res V} {pl : Nat → Array Value} {w : World} {e : Ending} {w' : World} (h : RdTo res pl w e w') :
    Below w.heap.size w w' ∧ ∃ t : T, e = .returned (.tuple (#[t.arg] ++ pl (endRes res) ++ #[.agg #[.int .i64 (codeRes res), .int .i64 (atRes res)]])) ∧ t.val = valRes res ∧ t.Own w' w.heap.size := by
  obtain ⟨hb, h⟩ := h
  refine ⟨hb, ?_⟩
  cases res with
  | bad c q => exact ⟨T.mk 0 0 ⟨#[]⟩ none 0 [] none 0 [], h, by simp [T.val_mk, valRes], leaf_own _ _ (by unfold okInt; omega) (by unfold okInt; omega) (by simp [okLen, ByteArray.size])⟩
  | ok v m => exact h
/-- Two boxes behind a reading call: the value's and the fault's. -/
structure Two (w w0 : World) (H : Nat) (t : T) (c q : Int) : Prop where
  own : t.Own w w0.heap.size
  high : ∀ b ∈ blocksOf t.rows, b < H
  val : w.heap[H]? = some (.cells t.cells.toArray 25 (0, 0))
  fault : w.heap[H + 1]? = some (.cells #[.int .i64 c, .int .i64 q] 36 (0, 0))
theorem Two.made {w w1 : World} {t : T} {c q : Int} (h : t.Own w1 w.heap.size) : Two ((w1.alloc (.cells t.cells.toArray 25)).alloc (.cells #[.int .i64 c, .int .i64 q] 36)) w w1.heap.size t c q :=
  ⟨h.keep (Only.of_below (S := []) (below2 _ _ _)) (by simp) (Nat.le_refl _), fun b hb => (owns_lt h.owns b hb).2, heap_alloc2_old _ _ _, heap_alloc2_new _ _ _⟩
theorem Two.then_ {w w' w0 : World} {H : Nat} {t : T} {c q : Int} (h : Two w w0 H t c q) (hb : Below w.heap.size w w') : Two w' w0 H t c q :=
  ⟨⟨h.own.ok, h.own.owns.below hb, h.own.nodup⟩, h.high, row_then h.val hb, row_then h.fault hb⟩
theorem Two.only {w w' w0 : World} {H g : Nat} {t : T} {c q : Int} (h : Two w w0 H t c q) (ho : Only [g] w w') (hg : g < w0.heap.size ∨ H + 1 < g) (h0 : w0.heap.size ≤ H) : Two w' w0 H t c q :=
  ⟨⟨h.own.ok, h.own.owns.only ho (fun b hb hx => by have := h.high b hb; have := (owns_lt h.own.owns b hb).1; simp at hx; omega), h.own.nodup⟩, h.high, keep_row ho h.val (by simp; omega), keep_row ho h.fault (by simp; omega)⟩
theorem cells_mk {k n : Int} {s : ByteArray} {la : Option Addr} {lc : Nat} {l : List T} {da : Option Addr} {dc : Nat} {d : List (ByteArray × T)} : (T.cells (.mk k n s la lc l da dc d)).toArray = #[.int .i64 k, .int .i64 n, .string s, .slice la l.length lc, .slice da d.length dc] := rfl
set_option maxHeartbeats 8000000 in
theorem breads_law (la : Option Addr) (ca : Nat) (bs : List Int) (p : Int) (w : World) (hA : InB w la bs) (hB : isB bs) (hc : bs.length ≤ ca ∧ ca ≤ 140737488351232) (h0 : la = none → ca = 0) (hp0 : -9223372036854775808 ≤ p) (hp1 : p ≤ 9223372036854775807) {B : Nat} (hE : Env2 w B) (hBw : B ≤ w.heap.size) :
    Calls Tryd.prog 4 #[.slice la bs.length ca, .int .i64 p] w fun e w' => e = .returned (.bool true) ∧ Below w.heap.size w w' := by
  have HA := Lib.hid (And.intro hA (And.intro hB (And.intro hc h0)))
  have HE := Lib.hid (hE.mono hBw)
  have hl : bs.length ≤ 140737488351232 := by omega
  obtain ⟨R, hR⟩ : ∃ R, readF (bs.length + 2) bs p = R := ⟨_, rfl⟩
  obtain ⟨D, hD⟩ : ∃ D, decF (bs.length + 2) bs = D := ⟨_, rfl⟩
  have HR := Lib.hid (And.intro hR hD)
  clear hA hB hc h0 hE hBw hR hD
  go_enter Tryd.func4, Tryd.ntmps4
  go_wp2_with fail
  refine (awake02_any w HE.out (Nat.le_refl _)).mono ?_
  rintro e w1 ⟨rfl, b1⟩
  have H1 := Lib.hid b1
  clear b1
  go_wp2_with fail
  have K2 := RRd_any la ca bs p (bs.length + 2) (rreads_all _).1 w1 (HA.out.1.then_ H1.out) HA.out.2.2.1.1 hl HA.out.2.1 (HA.out.1.then_ H1.out).low (HE.out.then_ H1.out) H1.out.size (Nat.le_refl _)
  rw [HR.out.1] at K2
  refine K2.mono ?_
  intro e w2 hr
  obtain ⟨b2, t2, rfl, v2, o2⟩ := hr.both
  have V2 := Lib.hid v2
  have T2 := Lib.hid (Two.made (c := codeRes R) (q := atRes R) o2)
  have bX := below_then b2 (below2 w2 (.cells t2.cells.toArray 25) (.cells #[.int .i64 (codeRes R), .int .i64 (atRes R)] 36))
  have B2 := Lib.hid (below_then H1.out bX)
  have Z2 := Lib.hid (And.intro b2.size (lt_of_block T2.out.fault))
  obtain ⟨k2, n2, s2, la2, lc2, l2, da2, dc2, d2⟩ := t2
  rw [show ∀ x y : Value, #[x] ++ placeA (endRes R) ++ #[y] = #[x, .int .i64 ((endRes R : Nat) : Int), y] from fun _ _ => rfl]
  try rw [cells_mk] at T2
  try rw [cells_mk] at B2
  try rw [cells_mk] at Z2
  dsimp only [T.arg, T.cells]
  clear K2 hr b2 v2 o2 bX 
  go_wp2_with fail
  generalize hU : (w2.alloc (.cells #[.int .i64 k2, .int .i64 n2, .string s2, .slice la2 l2.length lc2, .slice da2 d2.length dc2] 25)).alloc (.cells #[.int .i64 (codeRes R), .int .i64 (atRes R)] 36) = U2 at T2 B2 Z2 ⊢
  clear hU
  have K3 := RDec_any la ca bs (bs.length + 2) (rreads_all _).1 U2 (HA.out.1.then_ B2.out) HA.out.2.2.1.1 hl HA.out.2.1 (HA.out.1.then_ B2.out).low (HE.out.then_ B2.out) B2.out.size (Nat.le_refl _)
  rw [HR.out.2] at K3
  refine K3.mono ?_
  intro e w3 hr
  obtain ⟨b3, t3, rfl, v3, o3⟩ := hr.both
  have V3 := Lib.hid v3
  have T3 := Lib.hid (Two.made (c := codeRes D) (q := atRes D) o3)
  have bX := below_then b3 (below2 w3 (.cells t3.cells.toArray 25) (.cells #[.int .i64 (codeRes D), .int .i64 (atRes D)] 36))
  have B3 := Lib.hid (below_then B2.out bX)
  have Z3 := Lib.hid (And.intro b3.size (lt_of_block T3.out.fault))
  have T23 := Lib.hid (T2.out.then_ bX)
  obtain ⟨k3, n3, s3, la3, lc3, l3, da3, dc3, d3⟩ := t3
  rw [show ∀ x y : Value, #[x] ++ placeN (endRes D) ++ #[y] = #[x, y] from fun _ _ => rfl]
  try rw [cells_mk] at T3
  try rw [cells_mk] at B3
  try rw [cells_mk] at Z3
  try rw [cells_mk] at T23
  dsimp only [T.arg, T.cells]
  clear K3 hr b3 v3 o3 bX T2
  go_wp2_with fail
  generalize hU : (w3.alloc (.cells #[.int .i64 k3, .int .i64 n3, .string s3, .slice la3 l3.length lc3, .slice da3 d3.length dc3] 25)).alloc (.cells #[.int .i64 (codeRes D), .int .i64 (atRes D)] 36) = U3 at T3 B3 Z3 T23 ⊢
  clear hU
  have T2 := T23
  clear T23
  refine (blent_any la ca bs U3 (HA.out.1.then_ B3.out) (fun h => ⟨HA.out.2.2.2 h, List.eq_nil_of_length_eq_zero (by have := HA.out.2.2.2 h; have := HA.out.2.2.1; omega)⟩) (by omega)).mono ?_
  rintro e w4 ⟨rfl, o4, b4⟩
  have O4 := Lib.hid o4
  have Z4 := Lib.hid (o4.block U3.heap.size rfl)
  have B4 := Lib.hid (below_then B3.out b4)
  have T24 := Lib.hid (T2.out.then_ b4)
  have T34 := Lib.hid (T3.out.then_ b4)
  clear T2 T3 o4 b4
  have T2 := T24
  have T3 := T34
  clear T24 T34
  go_wp2_with fail
  have K5 := Rd_any (some ⟨U3.heap.size, 0, none⟩) (bs.length + 2) bs p (bs.length + 2) (reads_all _).1 w4 O4.out.inB.prefix_ (by omega) hl HA.out.2.1 O4.out.inB.prefix_.low (HE.out.then_ B4.out) B4.out.size (Nat.le_refl _)
  rw [HR.out.1] at K5
  refine K5.mono ?_
  intro e w5 hr
  obtain ⟨b5, t5, rfl, v5, o5⟩ := hr.both
  have V5 := Lib.hid v5
  have T5 := Lib.hid (Two.made (c := codeRes R) (q := atRes R) o5)
  have bX := below_then b5 (below2 w5 (.cells t5.cells.toArray 25) (.cells #[.int .i64 (codeRes R), .int .i64 (atRes R)] 36))
  have B5 := Lib.hid (below_then B4.out bX)
  have Z5 := Lib.hid (And.intro b5.size (lt_of_block T5.out.fault))
  have T25 := Lib.hid (T2.out.then_ bX)
  have T35 := Lib.hid (T3.out.then_ bX)
  have O5 := Lib.hid (O4.out.then_ bX)
  obtain ⟨k5, n5, s5, la5, lc5, l5, da5, dc5, d5⟩ := t5
  rw [show ∀ x y : Value, #[x] ++ placeA (endRes R) ++ #[y] = #[x, .int .i64 ((endRes R : Nat) : Int), y] from fun _ _ => rfl]
  try rw [cells_mk] at T5
  try rw [cells_mk] at B5
  try rw [cells_mk] at Z5
  try rw [cells_mk] at T25
  try rw [cells_mk] at T35
  try rw [cells_mk] at O5
  dsimp only [T.arg, T.cells]
  clear K5 hr b5 v5 o5 bX T2 T3
  go_wp2_with fail
  generalize hU : (w5.alloc (.cells #[.int .i64 k5, .int .i64 n5, .string s5, .slice la5 l5.length lc5, .slice da5 d5.length dc5] 25)).alloc (.cells #[.int .i64 (codeRes R), .int .i64 (atRes R)] 36) = U5 at T5 B5 Z5 T25 T35 O5 ⊢
  clear hU
  have T2 := T25
  clear T25
  have T3 := T35
  clear T35
  have K6 := Dec_any (some ⟨U3.heap.size, 0, none⟩) (bs.length + 2) bs (bs.length + 2) (reads_all _).1 U5 O5.out.inB.prefix_ (by omega) hl HA.out.2.1 O5.out.inB.prefix_.low (HE.out.then_ B5.out) B5.out.size (Nat.le_refl _)
  rw [HR.out.2] at K6
  refine K6.mono ?_
  intro e w6 hr
  obtain ⟨b6, t6, rfl, v6, o6⟩ := hr.both
  have V6 := Lib.hid v6
  have T6 := Lib.hid (Two.made (c := codeRes D) (q := atRes D) o6)
  have bX := below_then b6 (below2 w6 (.cells t6.cells.toArray 25) (.cells #[.int .i64 (codeRes D), .int .i64 (atRes D)] 36))
  have B6 := Lib.hid (below_then B5.out bX)
  have Z6 := Lib.hid (And.intro b6.size (lt_of_block T6.out.fault))
  have T26 := Lib.hid (T2.out.then_ bX)
  have T36 := Lib.hid (T3.out.then_ bX)
  have T56 := Lib.hid (T5.out.then_ bX)
  have O6 := Lib.hid (O5.out.then_ bX)
  obtain ⟨k6, n6, s6, la6, lc6, l6, da6, dc6, d6⟩ := t6
  rw [show ∀ x y : Value, #[x] ++ placeN (endRes D) ++ #[y] = #[x, y] from fun _ _ => rfl]
  try rw [cells_mk] at T6
  try rw [cells_mk] at B6
  try rw [cells_mk] at Z6
  try rw [cells_mk] at T26
  try rw [cells_mk] at T36
  try rw [cells_mk] at T56
  try rw [cells_mk] at O6
  dsimp only [T.arg, T.cells]
  clear K6 hr b6 v6 o6 bX T2 T3 T5
  go_wp2_with fail
  generalize hU : (w6.alloc (.cells #[.int .i64 k6, .int .i64 n6, .string s6, .slice la6 l6.length lc6, .slice da6 d6.length dc6] 25)).alloc (.cells #[.int .i64 (codeRes D), .int .i64 (atRes D)] 36) = U6 at T6 B6 Z6 T26 T36 T56 O6 ⊢
  clear hU
  have T2 := T26
  clear T26
  have T3 := T36
  clear T36
  have T5 := T56
  clear T56
  refine (bkept_any U3.heap.size U3.heap.size la ca bs U6 O6.out (HA.out.1.then_ B6.out) (by omega)).mono ?_
  rintro e w7 ⟨rfl, o7⟩
  have T27 := Lib.hid (T2.out.only o7 (by have := Z2.out; have := Z3.out; omega) (by have := Z2.out; omega))
  have T37 := Lib.hid (T3.out.only o7 (by have := Z3.out; omega) (by have := Z3.out; omega))
  have T57 := Lib.hid (T5.out.only o7 (by have := Z4.out; omega) (by have := Z5.out; omega))
  have T67 := Lib.hid (T6.out.only o7 (by have := Z4.out; have := Z5.out; omega) (by have := Z6.out; omega))
  have B7 := Lib.hid (((Only.of_below (S := []) B6.out).then_ o7 (fun b hb => .inr (by have := B3.out.size; simp at hb; omega))).below)
  clear T2 T3 T5 T6 o7 O4 O5 O6
  have T2 := T27
  have T3 := T37
  have T5 := T57
  have T6 := T67
  clear T27 T37 T57 T67
  have c5 : ∀ o, w7.cell? ⟨w5.heap.size, o, none⟩ = (#[.int .i64 k5, .int .i64 n5, .string s5, .slice la5 l5.length lc5, .slice da5 d5.length dc5] : Array Value)[o]? := row_cells T5.out.val
  have c2 : ∀ o, w7.cell? ⟨w2.heap.size, o, none⟩ = (#[.int .i64 k2, .int .i64 n2, .string s2, .slice la2 l2.length lc2, .slice da2 d2.length dc2] : Array Value)[o]? := row_cells T2.out.val
  go_wp2_with fail
  refine (same_any (.mk k5 n5 s5 la5 lc5 l5 da5 dc5 d5) (.mk k2 n2 s2 la2 lc2 l2 da2 dc2 d2) w7 T5.out.own.ok T2.out.own.ok T5.out.own.in_ T2.out.own.in_).mono ?_
  rintro e w8 ⟨rfl, b8⟩
  rw [V5.out, V2.out, same_self]
  have T28 := Lib.hid (T2.out.then_ b8)
  have T38 := Lib.hid (T3.out.then_ b8)
  have T58 := Lib.hid (T5.out.then_ b8)
  have T68 := Lib.hid (T6.out.then_ b8)
  have B8 := Lib.hid (below_then B7.out b8)
  clear T2 T3 T5 T6 b8 c5 c2
  have T2 := T28
  have T3 := T38
  have T5 := T58
  have T6 := T68
  clear T28 T38 T58 T68
  have c6 : ∀ o, w8.cell? ⟨w6.heap.size, o, none⟩ = (#[.int .i64 k6, .int .i64 n6, .string s6, .slice la6 l6.length lc6, .slice da6 d6.length dc6] : Array Value)[o]? := row_cells T6.out.val
  have c3 : ∀ o, w8.cell? ⟨w3.heap.size, o, none⟩ = (#[.int .i64 k3, .int .i64 n3, .string s3, .slice la3 l3.length lc3, .slice da3 d3.length dc3] : Array Value)[o]? := row_cells T3.out.val
  go_wp2_with fail
  refine (same_any (.mk k6 n6 s6 la6 lc6 l6 da6 dc6 d6) (.mk k3 n3 s3 la3 lc3 l3 da3 dc3 d3) w8 T6.out.own.ok T3.out.own.ok T6.out.own.in_ T3.out.own.in_).mono ?_
  rintro e w9 ⟨rfl, b9⟩
  rw [V6.out, V3.out, same_self]
  have f2 := row_cells (row_then T2.out.fault b9)
  have f3 := row_cells (row_then T3.out.fault b9)
  have f5 := row_cells (row_then T5.out.fault b9)
  have f6 := row_cells (row_then T6.out.fault b9)
  have B9 := Lib.hid (below_then B8.out b9)
  clear T2 T3 T5 T6 b9 c6 c3
  go_wp2_with fail
  go_ret
  exact ⟨rfl, B9.out⟩
#print axioms breads_law
end Go.Proofs.YtjfgmcmnpekahaaDoor
