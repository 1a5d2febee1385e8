/- The document's own reader of layer 2: documents, lists, all kinds of a value. No statement is proved here. -/
import Derived.Test.YtjfgmcmnpekahaaDoorBRf
import Derived.Test.YtjfgmcmnpekahaaDoorBLoop
namespace Go.Proofs.YtjfgmcmnpekahaaDoor
open Go.RowKit
set_option maxRecDepth 100000

/-- What reading a document's fields yields, or the first fault. -/
def RDocs (res : Res (List (ByteArray × V))) (g : Nat) (K : Byt) (i : Nat) (w : World) (e : Ending) (w' : World) : Prop :=
  Only [g] w w' ∧ match res with
  | .bad c q => c ≠ 0 ∧ e = .returned (.slice none 0 0) ∧ ∃ j, RCur w' g K j c q
  | .ok d m => ∃ (a : Option Addr) (cap : Nat) (ts : List (ByteArray × T)), e = .returned (.slice a ts.length cap) ∧ (ts.map fun f => (f.1, f.2.val)) = d ∧ T.Own w' w.heap.size (.mk 5 0 ⟨#[]⟩ none 0 [] a cap ts) ∧ RCur w' g K (i + m) 0 0
theorem RDocs.bad {res : Res (List (ByteArray × V))} {g : Nat} {K : Byt} {i j : Nat} {w w' : World} {c q : Int} (h : res = .bad c q) (h0 : c ≠ 0) (hc : RCur w' g K j c q) (ho : Only [g] w w') : RDocs res g K i w (.returned (.slice none 0 0)) w' := by subst h; exact ⟨ho, h0, rfl, j, hc⟩
theorem RDocs.ok {res : Res (List (ByteArray × V))} {g : Nat} {K : Byt} {i : Nat} {w w' : World} {d : List (ByteArray × V)} {m : Nat} {a : Option Addr} {cap : Nat} {ts : List (ByteArray × T)} (h : res = .ok d m) (hd : (ts.map fun f => (f.1, f.2.val)) = d) (ht : T.Own w' w.heap.size (.mk 5 0 ⟨#[]⟩ none 0 [] a cap ts)) (hc : RCur w' g K (i + m) 0 0) (ho : Only [g] w w') : RDocs res g K i w (.returned (.slice a ts.length cap)) w' := by subst h; exact ⟨ho, a, cap, ts, rfl, hd, ht, hc⟩
def RDocAt (n : Nat) : Prop := ∀ (w : World) (g : Nat) (K : Byt) (i last : Nat) (deep : Int) (B : Nat) (list : Bool), RCur w g K i 0 0 → i ≤ last → last ≤ K.bs.length → 0 ≤ deep → deep ≤ 30 → Env2 w B → B ≤ g → last - i + 2 ≤ n → Calls Tryd.prog 29 #[.pointer (some ⟨g, 0, none⟩), .int .i64 deep, .int .i64 last, .bool list] w (RDocs (docF n list deep (K.rest i last) i) g K i w)
theorem RCur.atOf {w : World} {g : Nat} {K : Byt} {i : Nat} {fc fq : Int} (h : RCur w g K i fc fq) : atOf w g = i := by
  unfold Go.Proofs.YtjfgmcmnpekahaaDoor.atOf
  rw [h.cells0.2.1]
  rfl
theorem docF_open {n : Nat} {list : Bool} {deep : Int} {K : Byt} {i r N : Nat} {z : Int} (hd : deep ≤ 20) (hN : num ((K.rest i r).take 4) = N) (h5 : 5 ≤ N) (h6 : N ≤ 65536) (hr : N ≤ r - i) (hi : r ≤ K.bs.length) (hz : K.bs[i + N - 1]? = some z) (hn : r - i + 2 ≤ n + 1) :
    docF (n + 1) list deep (K.rest i r) i = match tailR list deep K (i + 4) (i + N - 1) z [] with
      | .bad c q => .bad c q
      | .ok d _ => .ok d N := by
  have hlen : (K.rest i r).length = r - i := rest_len hi
  rw [docF, if_neg (by omega), if_neg (by omega), hN, if_neg (by omega), if_neg (by rw [hlen]; omega), Int.toNat_natCast]
  have e1 : ((K.rest i r).drop 4).take (N - 5) = K.rest (i + 4) (i + N - 1) := by
    rw [rest_drop]
    unfold Byt.rest
    rw [List.take_take, show min (N - 5) (r - (i + 4)) = i + N - 1 - (i + 4) by omega]
  have e2 : (K.rest i r).getD (N - 1) 0 = z := by
    rw [List.getD_eq_getElem?_getD, rest_get (by omega), show i + (N - 1) = i + N - 1 by omega, hz]
    rfl
  rw [e1, e2, fldR_eq (by unfold Byt.rest; rw [List.length_take, List.length_drop]; omega), show (i : Int) + 4 = ((i + 4 : Nat) : Int) by omega]
  unfold tailR
  cases fldR list deep [] (K.rest (i + 4) (i + N - 1)) z ((i + 4 : Nat) : Int) <;> rfl
structure RLoop (list : Bool) (deep : Int) (g : Nat) (K : Byt) (i last : Nat) (z : Int) (w wr : World) (a : Option Addr) (c : Nat) (ts : List (ByteArray × T)) (j : Nat) : Prop where
  only : Only [g] w wr
  own : T.Own wr w.heap.size (.mk 5 0 ⟨#[]⟩ none 0 [] a c ts)
  cur : RCur wr g K j 0 0
  many : i + 4 + ts.length ≤ j
  le : j ≤ last
  tail : tailR list deep K (i + 4) last z [] = tailR list deep K j last z (ts.map fun f => (f.1, f.2.val))
theorem RLoop.step {list : Bool} {deep : Int} {g : Nat} {K : Byt} {i last : Nat} {z : Int} {w wr : World} {a : Option Addr} {c : Nat} {ts : List (ByteArray × T)} {j : Nat} (h : RLoop list deep g K i last z w wr a c ts j) {i0 : Nat} (h0 : RCur w g K i0 0 0) (hl : last ≤ i + 65536)
    {w1 wX w4 : World} {y : T} {s : ByteArray} {ga cap j' : Nat} (o1 : Only [g] wr w1) (hy : y.Own w1 wr.heap.size) (hs : okLen s.size) (hc1 : RCur w1 g K j' 0 0) (hX : Below w1.heap.size w1 wX)
    (hrow : w4.ownsRow w.heap.size 51 6 (.slice (some ⟨ga, 0, none⟩) (ts.length + 1) cap) (ts.length + 1) (ts.flatMap fcells ++ fcells (s, y))) (hg : wX.grownBy w4 (Value.slice a ts.length c).ownBlock) (hat : (Value.slice a ts.length c).ownBlock = some ga ∨ ga = wX.heap.size)
    (hj : j < j') (hj' : j' ≤ last) (ht : tailR list deep K j last z (ts.map fun f => (f.1, f.2.val)) = tailR list deep K j' last z ((ts.map fun f => (f.1, f.2.val)) ++ [(s, y.val)])) :
    RLoop list deep g K i last z w w4 (some ⟨ga, 0, none⟩) cap (ts ++ [(s, y)]) j' := by
  have hlow := lt_of_block h0.row
  have oX : Only [g] wr wX := o1.trans (Only.of_below hX)
  have hbase : ∀ b ∈ [g], b < w.heap.size := by simp; omega
  obtain ⟨wm, hsz, om, bm⟩ := only_split oX
  have hm := h.many
  have hrowX := own_rowD (h.own.keep oX hbase (Nat.le_refl _))
  have hblk : ∀ b, (Value.slice a ts.length c).ownBlock = some b → w.heap.size ≤ b := fun b hb => (hrowX.lt b hb).1
  have hown := own_addD (h.own.keep om hbase (Nat.le_refl _)) (hy.keep (Only.of_below (S := []) hX) (by simp) (Nat.le_refl _)) bm (by rw [hsz]; exact Nat.le_refl _) h.only.size hs (by have := h.le; unfold okFar; omega) (cap_of hrow) hrow hg (hat.imp id (fun e => by omega))
  have o3 : Only (Value.slice a ts.length c).ownBlock.toList wX w4 := only_grow hg
  refine ⟨(h.only.trans oX).then_ o3 (fun b hb => .inr (hblk b (by simpa using hb))), hown, h0.past (hc1.then_ hX) o3 (fun b hb => hblk b (by simpa using hb)), by simp; omega, hj', ?_⟩
  rw [h.tail, ht, List.map_append]
  rfl
end Go.Proofs.YtjfgmcmnpekahaaDoor
namespace Go.Proofs.YtjfgmcmnpekahaaDoor
open Go.RowKit
set_option maxRecDepth 100000

set_option maxHeartbeats 8000000 in
theorem rdoc_any (n : Nat) (hV : RValAt n) : RDocAt (n + 1) := by
  intro w g K i last deep B list h hi hl hd0 hd1 hE hgB hn
  obtain ⟨res, hres⟩ : ∃ res, res = docF (n + 1) list deep (K.rest i last) i := ⟨_, rfl⟩
  rw [← hres]
  have HRES := Lib.hid hres
  have HV := Lib.hid hV
  have HC := Lib.hid h
  have HE := Lib.hid hE
  have hfar := h.far
  have hcap := h.cap
  have hg := lt_of_block h.row
  have HR := Lib.hid (And.intro (rest_isB (i := i) (r := last) h.byte) (rest_len (i := i) hl))
  have HNn := Lib.hid hn
  have c0 := row_cells h.row
  have f0 := rowf h.row
  clear hres hV h hE hn
  go_enter Tryd.func29, Tryd.ntmps29
  by_cases hd : 20 < deep
  · have HF := Lib.hid (show res = .bad 25 i by rw [HRES.out, docF, if_pos hd])
    go_wp2_with fail
    refine (wrong_any 25 i w HC.out).mono ?_
    rintro e w9 ⟨rfl, hc9, ho9⟩
    try clear c0 f0
    try clear c1 f1
    go_wp2_with fail
    go_ret
    exact .bad HF.out (by decide) hc9 ((Only.refl [g] w).trans ho9)
  have HD := Lib.hid hd
  by_cases h4 : (last : Int) - i < 4
  · have HF := Lib.hid (show res = .bad 20 i by rw [HRES.out, docF, if_neg (by have := HD.out; omega), if_pos (by rw [HR.out.2]; omega)])
    go_wp2_with fail
    refine (wrong_any 20 i w HC.out).mono ?_
    rintro e w9 ⟨rfl, hc9, ho9⟩
    try clear c0 f0
    try clear c1 f1
    go_wp2_with fail
    go_ret
    exact .bad HF.out (by decide) hc9 ((Only.refl [g] w).trans ho9)
  obtain ⟨N, hN, -, hN4⟩ := num_small HR.out.1 (k := 4) (by omega) (by rw [HR.out.2]; omega)
  have hf := rest_four (K := K) (i := i) (r := last) (by omega)
  have HG := Lib.hid (get4_any w HC.out (by omega))
  rw [hf, hN] at HG
  have HN := Lib.hid (And.intro hN hN4)
  clear hf hN hN4
  go_wp2_with fail
  refine HG.out.mono ?_
  rintro e w1 ⟨rfl, b1⟩
  have H1 := Lib.hid (And.intro (HC.out.then_ b1) (And.intro (HE.out.then_ b1) (Only.of_below (S := [g]) b1)))
  have c1 := row_cells H1.out.1.row
  have f1 := rowf H1.out.1.row
  clear b1 c0 f0
  by_cases h5 : (N : Int) < 5
  · have HF := Lib.hid (show res = .bad 21 i by rw [HRES.out, docF, if_neg (by have := HD.out; omega), if_neg (by rw [HR.out.2]; omega), HN.out.1, if_pos (by omega)])
    go_wp2_with fail
    refine (wrong_any 21 i w1 H1.out.1).mono ?_
    rintro e w9 ⟨rfl, hc9, ho9⟩
    try clear c0 f0
    try clear c1 f1
    go_wp2_with fail
    go_ret
    exact .bad HF.out (by decide) hc9 (H1.out.2.2.trans ho9)
  by_cases h6 : 65536 < (N : Int)
  · have HF := Lib.hid (show res = .bad 21 i by rw [HRES.out, docF, if_neg (by have := HD.out; omega), if_neg (by rw [HR.out.2]; omega), HN.out.1, if_pos (by omega)])
    go_wp2_with fail
    refine (wrong_any 21 i w1 H1.out.1).mono ?_
    rintro e w9 ⟨rfl, hc9, ho9⟩
    try clear c0 f0
    try clear c1 f1
    go_wp2_with fail
    go_ret
    exact .bad HF.out (by decide) hc9 (H1.out.2.2.trans ho9)
  by_cases h7 : (last : Int) - i < N
  · have HF := Lib.hid (show res = .bad 20 i by rw [HRES.out, docF, if_neg (by have := HD.out; omega), if_neg (by rw [HR.out.2]; omega), HN.out.1, if_neg (by omega), if_pos (by rw [HR.out.2]; omega)])
    go_wp2_with fail
    refine (wrong_any 20 i w1 H1.out.1).mono ?_
    rintro e w9 ⟨rfl, hc9, ho9⟩
    try clear c0 f0
    try clear c1 f1
    go_wp2_with fail
    go_ret
    exact .bad HF.out (by decide) hc9 (H1.out.2.2.trans ho9)
  obtain ⟨z, hz⟩ : ∃ z, K.bs[i + N - 1]? = some z := ⟨_, List.getElem?_eq_getElem (by omega)⟩
  have HT := Lib.hid (HRES.out.trans (docF_open (n := n) (list := list) (deep := deep) (by omega) HN.out.1 (by omega) (by omega) (by omega) hl hz (by have := HNn.out; omega)))
  have HZ := Lib.hid hz
  have hA := H1.out.1.at2 (i + 4) ((i : Int) + 4) (by omega)
  have oA : Only [g] w (w1.setCell ⟨g, 1, none⟩ (.int .i64 ((i : Int) + 4))) := H1.out.2.2.setCell (p := ⟨g, 1, none⟩) (.inl (by simp)) _
  have HL0 := Lib.hid (show RLoop list deep g K i (i + N - 1) z w (w1.setCell ⟨g, 1, none⟩ (.int .i64 ((i : Int) + 4))) none 0 [] (i + 4) from ⟨oA, by
    refine ⟨?_, fun r hr => ?_, by simp [T.rows, T.rowsL, T.rowsD, blocksOf, Value.ownBlock]⟩
    · simp [T.ok, T.okL, T.okD, okInt, okLen, okFar, ByteArray.size]
    · simp [T.rows, T.rowsL, T.rowsD] at hr
      rcases hr with rfl | rfl <;> exact World.ownsRow_nil _ _ _ _, hA, by simp, by omega, rfl⟩)
  clear hz hA oA
  go_wp2_with fail
  go_loopw [12, 13] (fun fs _ W => ∃ a c ts j, fs = .slice a ts.length c ∧ RLoop list deep g K i (i + N - 1) z w W a c ts j) (fun _ _ W => K.bs.length + 1 - atOf W g)
  case atStart => exact ⟨none, 0, [], i + 4, rfl, HL0.out⟩
  case round =>
    clear HL0 c1 f1
    obtain ⟨a, c, ts, j, rfl, hL⟩ := hrel
    have HL := Lib.hid hL
    have c2 := row_cells hL.cur.row
    have hjle := hL.le
    have hmany := hL.many
    clear hL
    obtain ⟨b, o, ha⟩ := HC.out.some_ (by omega)
    have HA := Lib.hid ha
    have KC := Lib.hid (fun W (fc fq : Int) (j : Nat) (hW : RCur W g K j fc fq) => (show W.cell? ⟨g, 0, none⟩ = some (.slice (some ⟨b, o, none⟩) K.bs.length K.c) by
      have := row_cells hW.row 0
      rw [HA.out] at this
      exact this))
    clear ha
    by_cases hj : j < i + N - 1
    · have hfd := (rfield_any n HV.out list ts a c wr HL.out.cur hj (by omega) hd0 (by have := HD.out; omega) (HL.out.own.keep (Only.refl [] wr) (by simp) (by omega)) (HE.out.only HL.out.only (by simpa using hgB)) hgB (by have := HNn.out; omega))
      rw [show ((i + N - 1 : Nat) : Int) = (i : Int) + N - 1 by omega] at hfd
      have HFD := Lib.hid hfd
      clear hfd
      have hs0 := HL.out.only.size
      have HS0 := Lib.hid (And.intro hjle hmany)
      have hts : ts.length ≤ 65536 := by omega
      have hjn : (j : Int) < (i : Int) + N - 1 := by omega
      have HJ := Lib.hid hj
      have hN3 : (N : Int) ≤ 65536 := by omega
      clear hj hjle hmany hd1 h4 h5 h6 h7
      go_wp2_with fail
      refine HFD.out.mono ?_
      rintro e w2 ⟨ho2, ⟨cc, q, hcc, ⟨s, ⟨ky, ny, sy, lay, lcy, ly, day, dcy, dy⟩, rfl⟩, ⟨j', hc2⟩, ht⟩ | ⟨s, ⟨ky, ny, sy, lay, lcy, ly, day, dcy, dy⟩, j', rfl, hty, hs, hc2, hjj, hjl, ht⟩⟩
      · dsimp only [fieldArg]
        have c3 := row_cells hc2.row
        have hcb : (cc != 0) = true := by simpa using hcc
        have H2 := Lib.hid (And.intro hcc (And.intro hc2 (And.intro ho2 (ht z))))
        have hg2 := Nat.lt_of_lt_of_le hg (Nat.le_trans hs0 ho2.size)
        clear c2 hcc hc2 ho2 ht
        go_wp2_with fail
        go_ret
        exact .bad (by rw [HT.out, HL.out.tail, H2.out.2.2.2]) H2.out.1 (H2.out.2.1.then_ (below1 _ _)) ((HL.out.only.trans H2.out.2.2.1).trans (Only.of_below (below1 _ _)))
      · dsimp only [fieldArg]
        have c3 := row_cells hc2.row
        obtain ⟨i0, hi0, hz0, hz1, hz2⟩ := info_parts info_field
        have I0 := Lib.hid (And.intro hi0 (And.intro hz0 (And.intro hz1 hz2)))
        have H2 := Lib.hid (And.intro hty (And.intro hs (And.intro hc2 (And.intro ho2 (And.intro hjj (And.intro hjl (ht z)))))))
        have hg2 := Nat.lt_of_lt_of_le hg (Nat.le_trans hs0 ho2.size)
        have hlw := lt_of_block HC.out.row
        clear c2 hty hs hc2 ho2 hjj hjl ht hi0 hz0 hz1 hz2
        go_wp2_with (at_builtin; refine wpList_append_lies _ rfl (.tmp 76) (.tmp 78) 23 rfl w.heap.size 51 i0 _ 6 96 Tryd.underlying23 I0.out.1 I0.out.2.1 I0.out.2.2.1 I0.out.2.2.2 rfl (by decide) _ ts.length (ts.flatMap fcells) rfl (own_rowD (HL.out.own.keep (H2.out.2.2.2.1.trans (Only.of_below (below2 _ _ _))) (by simp; omega) (Nat.le_refl _))) ⟨w2.heap.size + 1, 0, none⟩ 1 1 [.string s, .int .i64 ky, .int .i64 ny, .string sy, .slice lay ly.length lcy, .slice day dy.length dcy] rfl rfl (news_at _ _ _ _ (by simp)) (by simp [Value.oneCell']) (by omega) (by unfold maxLen; omega) (by omega) (Nat.le_trans hs0 (Nat.le_trans H2.out.2.2.2.1.size (below2 _ _ _).size)) _ rfl ?_; intro ga cap w4 hrow hgrow hat _; have G4 := Lib.hid (HL.out.step HC.out (by have := HJ.out; omega) H2.out.2.2.2.1 H2.out.1 H2.out.2.1 H2.out.2.2.1 (below2 _ _ _) hrow hgrow hat H2.out.2.2.2.2.1 H2.out.2.2.2.2.2.1 H2.out.2.2.2.2.2.2); clear hrow hgrow hat)
        go_roundw
        case rel => exact ⟨_, _, _, _, by first | rfl | (rw [List.length_append]; rfl) | simp, G4.out⟩
        case measure =>
          have h0 := HJ.out
          have h1 := G4.out.cur.atOf
          have h2 := HL.out.cur.atOf
          have h3 := H2.out.2.2.2.2.1
          have h4 := H2.out.2.2.2.2.2.1
          omega
    · have hjM : j = i + N - 1 := by omega
      have hjI : (i : Int) + N - 1 = (j : Int) := by omega
      rw [hjI]
      have hzj : K.bs[j]? = some z := by rw [hjM]; exact HZ.out
      have hx := HL.out.cur.byte_at HA.out hzj
      have hc20 := KC.out _ _ _ _ HL.out.cur
      have hc21 : wr.cell? ⟨g, 1, none⟩ = some (.int .i64 j) := c2 1
      have f2 := rowf HL.out.cur.row
      have hjl := lt_of_get hzj
      have hzr := (HL.out.cur.byte) z (List.mem_of_getElem? hzj)
      have HTL := Lib.hid (show tailR list deep K (i + 4) (i + N - 1) z [] = if z = 0 then .ok (ts.map fun f => (f.1, f.2.val)) 0 else .bad 26 j by rw [HL.out.tail, hjM]; exact tail_end)
      have HJ := Lib.hid (And.intro hjM hzr)
      clear c2 hj hjle hmany hjM hjI hzj h4 h5 h6 h7 hd1 hzr
      by_cases hz0 : z = 0
      · subst hz0
        go_wp2_with fail
        go_ret
        have oF : Only [g] wr (wr.setCell ⟨g, 1, none⟩ (.int .i64 ((j : Int) + 1))) := (Only.refl [g] wr).setCell (p := ⟨g, 1, none⟩) (.inl (by simp)) _
        have hcF := HL.out.cur.at2 (j + 1) ((j : Int) + 1) (by omega)
        rw [show j + 1 = i + N by have := HJ.out.1; omega] at hcF
        exact .ok (by rw [HT.out, HTL.out]; simp) rfl (HL.out.own.keep oF (by simp; omega) (Nat.le_refl _)) hcF (HL.out.only.trans oF)
      · have hzb : (z != 0) = true := by simpa using hz0
        go_wp2_with fail
        refine (wrong_any 26 j wr HL.out.cur).mono ?_
        rintro e w9 ⟨rfl, hc9, ho9⟩
        clear hc20 hc21 f2
        go_wp2_with fail
        go_ret
        exact .bad (by rw [HT.out, HTL.out, if_neg hz0]) (by decide) hc9 (HL.out.only.trans ho9)
end Go.Proofs.YtjfgmcmnpekahaaDoor
namespace Go.Proofs.YtjfgmcmnpekahaaDoor
open Go.RowKit
set_option maxRecDepth 100000

theorem docR_bad {n : Nat} {l : Bool} {dp p : Int} {R : List Int} {c q : Int} (h : docF n l dp R p = .bad c q) : docR n l dp R p = .bad c q := by unfold docR; rw [h]
theorem docR_ok {n : Nat} {l : Bool} {dp p : Int} {R : List Int} {d : List (ByteArray × V)} {m : Nat} (h : docF n l dp R p = .ok d m) : docR n l dp R p = .ok (docO l d) m := by unfold docR docO; rw [h]
set_option maxHeartbeats 8000000 in
theorem rvalue_5 (n : Nat) (hD : RDocAt n) {g : Nat} {K : Byt} {i last : Nat} {deep : Int} (w : World) (h : RCur w g K i 0 0) (hi : i ≤ last) (hll : last < K.bs.length) (hd0 : 0 ≤ deep) (hd1 : deep ≤ 20) {B : Nat} (hE : Env2 w B) (hgB : B ≤ g) (hn : last - i + 2 ≤ n) : Calls Tryd.prog 59 #[.pointer (some ⟨g, 0, none⟩), .int .i64 5, .int .i64 deep, .int .i64 last] w (RReads (valF (n + 1) 5 deep (K.rest i last) i) g K i w) := by
  have b1 := below1 w (.cells #[.int .i64 0, .int .i64 0, .string ⟨#[]⟩, .slice none 0 0, .slice none 0 0] 25)
  have z0 := heap_alloc_new w (.cells #[.int .i64 0, .int .i64 0, .string ⟨#[]⟩, .slice none 0 0, .slice none 0 0] 25)
  have hg := lt_of_block h.row
  have HC := Lib.hid h
  have HU := Lib.hid (And.intro z0 (Only.of_below (S := [g]) b1))
  have HD := Lib.hid (hD _ g K i last (deep + 1) B false (h.then_ b1) hi (by omega) (by omega) (by omega) (hE.then_ b1) hgB hn)
  rw [val_doc]
  obtain ⟨res, hres⟩ : ∃ res, docF n false (deep + 1) (K.rest i last) i = res := ⟨_, rfl⟩
  rw [hres] at HD
  have HRES := Lib.hid hres
  clear h hE b1 z0 hres hD hi hll hn
  go_enter Tryd.func59, Tryd.ntmps59
  go_wp2_with fail
  refine HD.out.mono ?_
  rintro e w2 ⟨ho2, hcase⟩
  have x2 := keep_row ho2 HU.out.1 (by simp; omega)
  have cc := row_cells x2
  have ff := rowf x2
  have H2 := Lib.hid (And.intro x2 (HU.out.2.trans ho2))
  clear x2 ho2
  cases res with
  | bad c q =>
    obtain ⟨hcc, rfl, j', hc2⟩ := hcase
    have HC2 := Lib.hid hc2
    clear hc2
    go_wp2_with fail
    have cp := row_cells (put5row H2.out.1 (.int .i64 5) (.int .i64 0) (.string ⟨#[]⟩) (.slice none 0 0) (.slice none 0 0))
    refine bodyPost_ret (v := .agg #[.int .i64 5, .int .i64 0, .string ⟨#[]⟩, .slice none 0 0, .slice none 0 0]) (by simp [results, Tryd.results59, go_sem, cp]) rfl ?_
    have oW := put5only w2 w.heap.size (.int .i64 5) (.int .i64 0) (.string ⟨#[]⟩) (.slice none 0 0) (.slice none 0 0)
    exact .bad (t := T.mk 5 0 ⟨#[]⟩ none 0 [] none 0 []) (docR_bad HRES.out) hcc (HC.out.past HC2.out oW (by simp)) (H2.out.2.then_ oW (fun x hx => .inr (by simp at hx; omega)))
  | ok d m =>
    obtain ⟨a, cap, ts, rfl, hd, ht, hc2⟩ := hcase
    have HC2 := Lib.hid (And.intro hc2 (And.intro hd ht))
    clear hc2 hd ht
    go_wp2_with fail
    have cp := row_cells (put5row H2.out.1 (.int .i64 5) (.int .i64 0) (.string ⟨#[]⟩) (.slice none 0 0) (.slice a ts.length cap))
    refine bodyPost_ret (v := .agg #[.int .i64 5, .int .i64 0, .string ⟨#[]⟩, .slice none 0 0, .slice a ts.length cap]) (by simp [results, Tryd.results59, go_sem, cp]) rfl ?_
    have oW := put5only w2 w.heap.size (.int .i64 5) (.int .i64 0) (.string ⟨#[]⟩) (.slice none 0 0) (.slice a ts.length cap)
    refine .ok (t := T.mk 5 0 ⟨#[]⟩ none 0 [] a cap ts) (docR_ok HRES.out) ?_ ?_ (HC.out.past HC2.out.1 oW (by simp)) (H2.out.2.then_ oW (fun x hx => .inr (by simp at hx; omega)))
    · rw [T.val_mk, docO, if_neg (by decide), ← HC2.out.2.1]; rfl
    · exact HC2.out.2.2.keep oW (by simp) (by simp)
end Go.Proofs.YtjfgmcmnpekahaaDoor
namespace Go.Proofs.YtjfgmcmnpekahaaDoor
open Go.RowKit
set_option maxRecDepth 100000

/-- A list whose parts are those of fields that were read: its row is new, the parts are the old ones. -/
theorem own_list {w wr : World} {B : Nat} {a : Option Addr} {c : Nat} {ts : List (ByteArray × T)} {la : Option Addr} {lc : Nat} (h : T.Own w B (.mk 5 0 ⟨#[]⟩ none 0 [] a c ts)) (hb : Below w.heap.size w wr) (hB : B ≤ w.heap.size)
    (hrow : wr.ownsRow (w.heap.size + 1) 25 5 (.slice la ts.length lc) ts.length (ts.flatMap fun f => f.2.cells)) (h0 : la = none → lc = 0) (hl : okLen (ts.length * 80)) :
    T.Own wr B (.mk 6 0 ⟨#[]⟩ la lc (ts.map (·.2)) none 0 []) := by
  obtain ⟨ok, owns, nodup⟩ := h
  have o1 := owns.below hb
  rw [rows_mk] at o1 nodup owns
  have hlt := owns_lt owns
  have hsub : (ts.flatMap fun f => f.2.rows).Sublist ((⟨25, 5, .slice none ([] : List T).length 0, ([] : List T).length, ([] : List T).flatMap T.cells⟩ : Row) :: ⟨51, 6, .slice a ts.length c, ts.length, ts.flatMap fcells⟩ :: (([] : List T).flatMap T.rows ++ ts.flatMap fun f => f.2.rows)) := by
    refine List.Sublist.cons _ (List.Sublist.cons _ ?_)
    rw [List.flatMap_nil, List.nil_append]
    exact List.Sublist.refl _
  have hnd := nodup.sublist (blocks_sub hsub)
  have hrest0 : Owns w B (ts.flatMap fun f => f.2.rows) := fun r hr => owns r (hsub.subset hr)
  have hrest : Owns wr B (ts.flatMap fun f => f.2.rows) := fun r hr => o1 r (hsub.subset hr)
  have hall : T.rows (.mk 6 0 ⟨#[]⟩ la lc (ts.map (·.2)) none 0 []) = (⟨25, 5, .slice la ts.length lc, ts.length, ts.flatMap fun f => f.2.cells⟩ : Row) :: ⟨51, 6, .slice none 0 0, 0, []⟩ :: (ts.flatMap fun f => f.2.rows) := by
    rw [rows_mk]
    simp [List.flatMap_map]
  refine ⟨?_, ?_, ?_⟩
  · simp only [T.ok, T.okL_iff, T.okD_iff] at ok ⊢
    obtain ⟨q1, q2, q3, q4, q5, q6, q7, q8, q9, q10, q11⟩ := ok
    have hcap : ts.length ≤ lc ∧ lc ≤ 9223372036854775807 := by
      obtain ⟨_, h2⟩ := hrow
      rcases h2 with ⟨hv, hn⟩ | ⟨g', cap', cur, hv, hb, hg, hkc, hm, _⟩
      · injection hv with e1 e2 e3; omega
      · injection hv with _ _ e3; unfold maxLen at hm; omega
    refine ⟨by unfold okInt; omega, by unfold okInt; omega, by simp [okLen, ByteArray.size], by simpa using hcap, by simpa using hl, h0, by simp, by simp [okFar], by simp, fun z hz => ?_, by simp⟩
    obtain ⟨f, hf, rfl⟩ := List.mem_map.1 hz
    exact (q11 f hf).2
  · rw [hall]
    intro r hr
    rcases List.mem_cons.1 hr with rfl | hr
    · obtain ⟨h1, h2⟩ := hrow
      refine ⟨h1, ?_⟩
      rcases h2 with h2 | ⟨g, cap, cur, hv, hb, hrest⟩
      · exact .inl h2
      · exact .inr ⟨g, cap, cur, hv, by omega, hrest⟩
    · rcases List.mem_cons.1 hr with rfl | hr
      · exact World.ownsRow_nil _ _ _ _
      · exact hrest r hr
  · rw [hall]
    unfold blocksOf
    rw [List.filterMap_cons, List.filterMap_cons]
    cases la with
    | none => simpa [Value.ownBlock, blocksOf] using hnd
    | some ad =>
      have hg : w.heap.size + 1 ≤ ad.block ∧ (Value.slice (some ad) ts.length lc).ownBlock = some ad.block ∨ (Value.slice (some ad) ts.length lc).ownBlock = none := by
        cases hob : (Value.slice (some ad) ts.length lc).ownBlock with
        | none => exact .inr rfl
        | some g =>
          have := hrow.lt g hob
          have e : g = ad.block := by simpa [Value.ownBlock] using hob.symm
          subst e
          exact .inl ⟨this.1, rfl⟩
      rcases hg with ⟨hg, he⟩ | he
      · simp only [he]
        simp only [Value.ownBlock]
        refine List.nodup_cons.2 ⟨fun hc => ?_, hnd⟩
        have := (owns_lt hrest0 ad.block hc).2
        omega
      · simp only [he]
        simpa [Value.ownBlock, blocksOf] using hnd
/-- The loop that lays the parts of fields into a list. -/
structure CLoop (w wr : World) (ts : List (ByteArray × T)) (la : Option Addr) (lc k : Nat) : Prop where
  below : Below w.heap.size w wr
  box : wr.heap[w.heap.size]? = some (.cells #[.int .i64 6, .int .i64 0, .string ⟨#[]⟩, .slice la k lc, .slice none 0 0] 25 (0, 0))
  row : wr.ownsRow (w.heap.size + 1) 25 5 (.slice la k lc) k ((ts.take k).flatMap fun f => f.2.cells)
  le : k ≤ ts.length
  nil : la = none → lc = 0
theorem CLoop.step {w wr : World} {ts : List (ByteArray × T)} {la : Option Addr} {lc k : Nat} (h : CLoop w wr ts la lc k) {wX w4 : World} {f : ByteArray × T} {ga cap : Nat} (hX : Below wr.heap.size wr wX) (hf : ts[k]? = some f)
    (hrow : w4.ownsRow (w.heap.size + 1) 25 5 (.slice (some ⟨ga, 0, none⟩) (k + 1) cap) (k + 1) (((ts.take k).flatMap fun f => f.2.cells) ++ f.2.cells)) (hg : wX.grownBy w4 (Value.slice la k lc).ownBlock) :
    CLoop w (w4.setCell ⟨w.heap.size, 3, none⟩ (.slice (some ⟨ga, 0, none⟩) (k + 1) cap)) ts (some ⟨ga, 0, none⟩) cap (k + 1) := by
  have hv := lt_of_block h.box
  have o3 : Only (Value.slice la k lc).ownBlock.toList wX w4 := only_grow hg
  have hblk : ∀ b, (Value.slice la k lc).ownBlock = some b → w.heap.size + 1 ≤ b := fun b hb => (h.row.lt b hb).1
  have hbox : w4.heap[w.heap.size]? = some (.cells #[.int .i64 6, .int .i64 0, .string ⟨#[]⟩, .slice la k lc, .slice none 0 0] 25 (0, 0)) := keep_row o3 (row_then h.box hX) (fun hb => by have := hblk _ (by simpa using hb); omega)
  have o4 : Only [w.heap.size] w4 (w4.setCell ⟨w.heap.size, 3, none⟩ (.slice (some ⟨ga, 0, none⟩) (k + 1) cap)) := (Only.refl [w.heap.size] w4).setCell (p := ⟨w.heap.size, 3, none⟩) (.inl (by simp)) _
  have oW : Only [] w w4 := ((Only.of_below (S := []) h.below).trans (Only.of_below hX)).then_ o3 (fun b hb => .inr (by have := hblk b (by simpa using hb); omega))
  refine ⟨(oW.then_ o4 (fun b hb => .inr (by simp at hb; omega))).below, ?_, ?_, by have := lt_of_get hf; omega, fun e => by cases e⟩
  · rw [heap_setCell_same _ _ 3 _ _ _ hbox]
    rfl
  · have e : (ts.take (k + 1)).flatMap (fun f => f.2.cells) = ((ts.take k).flatMap fun f => f.2.cells) ++ f.2.cells := by
      rw [List.take_add_one, hf, List.flatMap_append]
      simp
    rw [e]
    have hga : ga ≠ w.heap.size := by
      have := (hrow.lt ga (by simp [Value.ownBlock])).1
      omega
    obtain ⟨h1, h2⟩ := hrow
    refine ⟨h1, ?_⟩
    rcases h2 with h2 | ⟨g, cap', cur, hv, hb, hg', hrest⟩
    · exact .inl h2
    · refine .inr ⟨g, cap', cur, hv, hb, ?_, hrest⟩
      have eg : g = ga := by injection hv with e1 _ _; injection e1 with e1; injection e1 with e1 _ _; exact e1.symm
      subst eg
      rw [o4.block g (lt_of_block hg') (by simp; exact hga)]
      exact hg'
end Go.Proofs.YtjfgmcmnpekahaaDoor
namespace Go.Proofs.YtjfgmcmnpekahaaDoor
open Go.RowKit
set_option maxRecDepth 100000

/-- Both outcomes of a document's fields, in one form. -/
theorem RDocs.both {res : Res (List (ByteArray × V))} {g : Nat} {K : Byt} {i : Nat} {w : World} {e : Ending} {w' : World} (h : RDocs res g K i w e w') :
    ∃ (a : Option Addr) (cap : Nat) (ts : List (ByteArray × T)) (c q : Int) (j : Nat), e = .returned (.slice a ts.length cap) ∧ T.Own w' w.heap.size (.mk 5 0 ⟨#[]⟩ none 0 [] a cap ts) ∧ RCur w' g K j c q ∧ Only [g] w w' ∧
      ((res = .bad c q ∧ c ≠ 0) ∨ ∃ m, res = .ok (ts.map fun f => (f.1, f.2.val)) m ∧ c = 0 ∧ q = 0 ∧ j = i + m) := by
  obtain ⟨ho, h⟩ := h
  cases res with
  | bad c q =>
    obtain ⟨hc, rfl, j, hj⟩ := h
    exact ⟨none, 0, [], c, q, j, rfl, leaf_own _ _ (by unfold okInt; omega) (by unfold okInt; omega) (by simp [okLen, ByteArray.size]), hj, ho, .inl ⟨rfl, hc⟩⟩
  | ok d m =>
    obtain ⟨a, cap, ts, rfl, rfl, ht, hc⟩ := h
    exact ⟨a, cap, ts, 0, 0, i + m, rfl, ht, hc, ho, .inr ⟨m, rfl, rfl, rfl, rfl⟩⟩
theorem CLoop.drew {w wr : World} {ts : List (ByteArray × T)} {la : Option Addr} {lc k : Nat} (h : CLoop w wr ts la lc k) : CLoop w wr.drew ts la lc k := ⟨h.below.drew, h.box, h.row, h.le, h.nil⟩
set_option maxHeartbeats 8000000 in
theorem rvalue_6 (n : Nat) (hD : RDocAt n) {g : Nat} {K : Byt} {i last : Nat} {deep : Int} (w : World) (h : RCur w g K i 0 0) (hi : i ≤ last) (hll : last < K.bs.length) (hd0 : 0 ≤ deep) (hd1 : deep ≤ 20) {B : Nat} (hE : Env2 w B) (hgB : B ≤ g) (hn : last - i + 2 ≤ n) : Calls Tryd.prog 59 #[.pointer (some ⟨g, 0, none⟩), .int .i64 6, .int .i64 deep, .int .i64 last] w (RReads (valF (n + 1) 6 deep (K.rest i last) i) g K i w) := by
  have b1 := below1 w (.cells #[.int .i64 0, .int .i64 0, .string ⟨#[]⟩, .slice none 0 0, .slice none 0 0] 25)
  have z0 := heap_alloc_new w (.cells #[.int .i64 0, .int .i64 0, .string ⟨#[]⟩, .slice none 0 0, .slice none 0 0] 25)
  have hg := lt_of_block h.row
  have HC := Lib.hid h
  have HU := Lib.hid (And.intro z0 (Only.of_below (S := [g]) b1))
  have HD := Lib.hid (hD _ g K i last (deep + 1) B true (h.then_ b1) hi (by omega) (by omega) (by omega) (hE.then_ b1) hgB hn)
  rw [val_list]
  obtain ⟨res, hres⟩ : ∃ res, docF n true (deep + 1) (K.rest i last) i = res := ⟨_, rfl⟩
  rw [hres] at HD
  have HRES := Lib.hid hres
  clear h hE b1 z0 hres hD hi hll hn
  go_enter Tryd.func59, Tryd.ntmps59
  go_wp2_with fail
  refine HD.out.mono ?_
  intro e w2 hr
  obtain ⟨a, cap, ts, c, q, j, rfl, ht, hc2, ho2, hcase⟩ := hr.both
  have x2 := keep_row ho2 HU.out.1 (by simp; omega)
  have hs2 := lt_of_block x2
  have H2 := Lib.hid (And.intro x2 (And.intro (HU.out.2.trans ho2) (And.intro ht (And.intro hc2 hcase))))
  have hfar : ts.length * 96 ≤ 140737488355328 := ht.ok.parts.2.2.2.2.2.2.2.2.1
  have H0 := Lib.hid (show CLoop w2 (w2.alloc (.cells #[.int .i64 6, .int .i64 0, .string ⟨#[]⟩, .slice none 0 0, .slice none 0 0] 25)) ts none 0 0 from ⟨below1 _ _, heap_alloc_new _ _, World.ownsRow_nil _ _ _ _, by omega, fun _ => rfl⟩)
  clear x2 ho2 ht hc2 hcase hr
  go_wp2_with fail
  go_loopw [12] (fun x W => ∃ (k : Nat) (la : Option Addr) (lc : Nat), x = .int .i64 k ∧ CLoop w2 W ts la lc k) (fun x _ => ts.length - (intOf x).toNat)
  case atStart => exact ⟨0, none, 0, rfl, H0.out⟩
  case round =>
    clear H0
    obtain ⟨k, la, lc, rfl, hL⟩ := hrel
    have HL := Lib.hid hL
    have cb := row_cells hL.box
    by_cases hkl : k < ts.length
    · have hin := (H2.out.2.2.1.in_).then_ hL.below
      obtain ⟨b', o', f1', k1, n1, s1, la1, lc1, l1, da1, dc1, d1, rfl, hx', hix, q0, q1, q2, q3, q4, q5⟩ := hin.parts.2.six hkl
      have HX := Lib.hid hx'
      have hsz := Nat.lt_of_lt_of_le (lt_of_block hL.box) (Nat.le_refl _)
      obtain ⟨i0, hi0, hz0, hz1, hz2⟩ := info_parts info_value
      have I0 := Lib.hid (And.intro hi0 (And.intro hz0 (And.intro hz1 hz2)))
      have hrow0 := hL.row
      have HROW := Lib.hid (fun X => row_keep hrow0 ((below1 wr X).drew))
      clear hL hin hx' hi0 hz0 hz1 hz2 hrow0
      have x4f := fun (X : Obj) (w4 : World) (hg : (wr.alloc X).drew.grownBy w4 (Value.slice la k lc).ownBlock) => keep_row (only_grow hg) (row_then HL.out.box ((below1 wr X).drew)) (fun hb => by have := (HL.out.row.lt _ (by simpa using hb)).1; omega)
      have HX4 := Lib.hid x4f
      clear x4f
      go_wp2_with fail
      go_region_law (first
        | (refine step_append_lies _ rfl (.tmp 39) (.tmp 45) 22 rfl (w2.heap.size + 1) 25 i0 _ 5 80 Tryd.underlying22 I0.out.1 I0.out.2.1 I0.out.2.2.1 I0.out.2.2.2 rfl (by decide) (.slice la k lc) k ((ts.take k).flatMap fun f : ByteArray × T => f.2.cells) (by simp [Act.eval]) (HROW.out _) ⟨wr.heap.size, 0, none⟩ 1 1 [.int .i64 k1, .int .i64 n1, .string s1, .slice la1 l1.length lc1, .slice da1 d1.length dc1] (by simp [Act.eval]) rfl (news_at _ _ _ _ (by simp)) (by simp [Value.oneCell']) (by decide) (by unfold maxLen; omega) (by omega) (by simp; omega) _ rfl ?_; intro ga cap4 w4 hrow hgrow hat hlt; have x4 := HX4.out _ _ hgrow; have r4 := row_cells x4; have f4 := rowf x4; have G4 := Lib.hid (HL.out.step ((below1 wr _).drew) HX.out hrow hgrow); clear hrow hgrow hat x4))
      all_goals
        clear r4 f4
        go_wp2_with fail
        go_roundw
        case rel => exact ⟨k + 1, _, _, by go_num, G4.out⟩
        case measure => simp [intOf]; omega
    · obtain rfl : k = ts.length := by have := HL.out.le; omega
      have x3 := row_then H2.out.1 hL.below
      have c3 := row_cells x3
      have f3 := rowf x3
      have h6 := own_list H2.out.2.2.1 hL.below (by simp; omega) (by have h := hL.row; rw [List.take_length] at h; exact h) hL.nil (by unfold okLen; omega)
      have H6 := Lib.hid (And.intro x3 (And.intro h6 hL.below))
      clear hL x3 h6
      go_wp2_with fail
      have cp := row_cells (put5row H6.out.1 (.int .i64 6) (.int .i64 0) (.string ⟨#[]⟩) (.slice la ts.length lc) (.slice none 0 0))
      refine bodyPost_ret (v := .agg #[.int .i64 6, .int .i64 0, .string ⟨#[]⟩, .slice la ts.length lc, .slice none 0 0]) (by simp [results, Tryd.results59, go_sem, cp]) rfl ?_
      have oW := put5only wr w.heap.size (.int .i64 6) (.int .i64 0) (.string ⟨#[]⟩) (.slice la ts.length lc) (.slice none 0 0)
      have oA := (H2.out.2.1.trans (Only.of_below H6.out.2.2)).then_ oW (fun x hx => .inr (by simp at hx; omega))
      have hcF := HC.out.past (H2.out.2.2.2.1.then_ H6.out.2.2) oW (by simp)
      have htF := H6.out.2.1.keep oW (by simp) (B' := w.heap.size) (by simp)
      have harg : (T.mk 6 0 ⟨#[]⟩ la lc (ts.map (·.2)) none 0 []).arg = .agg #[.int .i64 6, .int .i64 0, .string ⟨#[]⟩, .slice la ts.length lc, .slice none 0 0] := by simp [T.arg, T.cells]
      rw [← harg]
      rcases H2.out.2.2.2.2 with ⟨hr, h0⟩ | ⟨m, hr, rfl, rfl, rfl⟩
      · exact .bad (docR_bad (HRES.out.trans hr)) h0 hcF oA
      · exact .ok (docR_ok (HRES.out.trans hr)) (by simp [T.val_mk, docO, Function.comp_def]) htF hcF oA
end Go.Proofs.YtjfgmcmnpekahaaDoor
namespace Go.Proofs.YtjfgmcmnpekahaaDoor
open Go.RowKit
set_option maxRecDepth 100000

theorem rvalue_any (n : Nat) (hD : RDocAt n) : RValAt (n + 1) := by
  intro w g K i last deep B k h hi hll hk1 hk2 hd0 hd1 hE hgB hn
  have hl : last ≤ K.bs.length := by omega
  have hc : k = 1 ∨ k = 2 ∨ k = 3 ∨ k = 4 ∨ k = 5 ∨ k = 6 ∨ k = 7 ∨ k = 8 ∨ k = 9 ∨ k = 10 ∨ k = 11 := by omega
  rcases hc with rfl | rfl | rfl | rfl | rfl | rfl | rfl | rfl | rfl | rfl | rfl
  · exact rvalue_1 n w h hi hl hE hgB
  · exact rvalue_2 n w h hi hl hE hgB
  · exact rvalue_3 n w h hi hl hE hgB
  · exact rvalue_4 n w h hi hl hE hgB
  · exact rvalue_5 n hD w h hi hll hd0 hd1 hE hgB (by omega)
  · exact rvalue_6 n hD w h hi hll hd0 hd1 hE hgB (by omega)
  · exact rvalue_7 n w h hi hll hE hgB
  · exact rvalue_8 n w h hi hl hE hgB
  · exact rvalue_9 n w h hi hl hE hgB
  · exact rvalue_10 n w h hi hl hE hgB
  · exact rvalue_11 n w h hi hl hE hgB
theorem rreads_all : ∀ n : Nat, RDocAt n ∧ RValAt n := by
  intro n
  induction n with
  | zero => exact ⟨fun w g K i last deep B list _ _ _ _ _ _ _ h => by omega, fun w g K i last deep B k _ _ _ _ _ _ _ _ _ h => by omega⟩
  | succ n ih => exact ⟨rdoc_any n ih.2, rvalue_any n ih.1⟩
#print axioms rreads_all
end Go.Proofs.YtjfgmcmnpekahaaDoor
