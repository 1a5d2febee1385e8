/- The document's own space: Clone, New. No statement is proved here. -/
import Derived.Test.YteoekfmjlmpmgaaHRef2
namespace Go.Proofs.Yteoekfmjlmpmgaa
open Go.RowKit
set_option maxRecDepth 100000

theorem RSp.low {B : Nat} {w : World} {F : List Nat} {a : Nat} {L : List Int} (h : RSp B w F a L) : B ≤ w.heap.size := by
  obtain ⟨g, c, rfl, hne, hB, hbox, -⟩ := h
  exact Nat.le_trans hB (Nat.le_of_lt (lt_of_block hbox))
set_option maxHeartbeats 4000000 in
theorem rclone_any (B : Nat) (F : List Nat) (a : Nat) (L : List Int) (w : World) (h : RSp B w F a L) :
    Calls Try.prog 13 #[.pointer (some ⟨a, 0, none⟩)] w fun e w' => ∃ b F2, e = .returned (.pointer (some ⟨b, 0, none⟩)) ∧ RSp B w' F2 b L ∧ (∀ x ∈ F2, w.heap.size ≤ x) ∧ Below w.heap.size w w' := by
  have hlow := h.low
  obtain ⟨g, c, rfl, hne, hB, hbox, hrow, h3, hl1, hl2⟩ := h
  have c0 := row_cells (row_then hbox (below1 w (.cells #[] 3))) 0
  have hin := hrow.inI.then_ (below1 w (.cells #[] 3))
  have H := Lib.hid (And.intro hin (And.intro (OwnI.lit w [] (by decide)) (And.intro h3 (And.intro hl1 hl2))))
  clear hne hB hbox hrow h3 hin
  go_enter Try.func13, Try.ntmps13
  go_wp2_with (first
    | (at_builtin; go_loud (refine apIR rfl (.tmp 3) (.tmp 7) rfl w.heap.size _ _ rfl H.out.2.1 _ _ _ L rfl rfl H.out.1 (fun e => by cases e) (by show 0 + L.length ≤ _; omega) (below1 _ _).size ?_); intro v' w2 hg; have G := Lib.hid (hg.pre (below1 w _)); obtain ⟨g2, c2, rfl, hc2⟩ := (show OwnI w2 w.heap.size v' L from hg.own).form hl1; clear hg))
  go_ret
  have hg := G.out
  rw [List.nil_append] at hg
  have hlt := hg.own.block g2 rfl
  have hb2 : Below w.heap.size w w2 := by
    have h5 := (below1 w (.cells #[] 3))
    exact ⟨hg.grow.os, hg.grow.tape, hg.grow.output, hg.grow.size, fun k hk => hg.grow.block k hk (by intro e; have e : k = w.heap.size := Option.some.inj e; omega)⟩
  refine ⟨_, _, rfl, ⟨g2, c2, rfl, by omega, by omega, heap_alloc_new w2 _, (hg.own.alloc _).base hlow, H.out.2.2.1, H.out.2.2.2⟩, fun x hx => ?_, hb2.alloc hb2.size _⟩
  rcases List.mem_cons.1 hx with rfl | hx
  · exact hg.grow.size
  · rw [List.mem_singleton.1 hx]; exact hlt.1
theorem make_zeroI (n : Nat) (hn : n ≤ 17592186044416) (w : World) : (Instr.makeSlice 22 (.int .i64 (n : Int)) (.int .i64 (n : Int))).run Try.prog w = .ok (.slice (some ⟨w.heap.size, 0, none⟩) n n) (w.alloc (.cells (itV (List.replicate n 0)).toArray 3)) := by
  obtain ⟨i, h1, h2, h3, h4⟩ := info_parts info_int
  have hb2 : (i.bytes : Int) * (n : Int) ≤ 281474976710656 := by rw [h4]; omega
  have := run_make (P := Try.prog) w 22 3 i (.int .i64 0) Try.underlying22 h1 h2 .i64 .i64 n n (by omega) (by omega) hb2 (by omega)
  have e : madeCells (Value.int .i64 0).cells (n * i.size) = (itV (List.replicate n 0)).toArray := by
    rw [h3, Nat.mul_one]
    apply Array.toList_inj.1
    rw [itV, List.map_replicate]
    exact toList_madeCells_one _ _
  simpa [e] using this
theorem newF_app : ∀ (xs ys L : List Int), newF L (xs ++ ys) = (newF L xs).bind fun M => newF M ys
  | [], ys, L => rfl
  | x :: xs, ys, L => by
    rw [List.cons_append, newF, newF]
    split
    · exact newF_app xs ys _
    · rfl
theorem newF_at {L M us : List Int} {k : Nat} {u : Int} (h : newF L (us.take k) = some M) (hu : us[k]? = some u) : newF L us = newF M (u :: us.drop (k + 1)) ∧ newF L (us.take (k + 1)) = newF M [u] := by
  have hk := lt_of_get hu
  constructor
  · conv => lhs; rw [← List.take_append_drop k us]
    rw [newF_app, h, List.drop_eq_getElem_cons hk]
    obtain ⟨_, e⟩ := List.getElem?_eq_some_iff.1 hu
    rw [e]
    rfl
  · rw [List.take_add_one, hu, Option.toList_some, newF_app, h]
    rfl
set_option maxHeartbeats 4000000 in
theorem rnew_any (B : Nat) (pages : Int) (hp : okInt pages) (ua : Option Addr) (n c : Nat) (us : List Int) (w : World) (hB : B ≤ w.heap.size) (hi : InI w ua us) (hn : us.length = n) (hl : n ≤ 17592186044416) (hu : ∀ u ∈ us, okInt u) :
    Calls Try.prog 11 #[.int .i64 pages, .slice ua n c] w (NewTo (RSp B) pages us w) := by
  have HI := Lib.hid (And.intro hi (And.intro hn hu))
  clear hi hn hu
  by_cases hpg : 1 ≤ pages ∧ pages ≤ 65536
  · obtain ⟨p, rfl⟩ : ∃ p : Nat, pages = p := ⟨pages.toNat, by omega⟩
    have hp1 : 1 ≤ p ∧ p ≤ 65536 := by omega
    have hnp : newP (p : Int) us = newF (List.replicate p 0) us := by unfold newP; rw [if_pos hpg, Int.toNat_natCast]
    have HNP := Lib.hid hnp
    clear hnp
    have hmk : ∀ w : World, (Instr.makeSlice 22 (.int .i64 (p : Int)) (.int .i64 (p : Int))).run Try.prog w = .ok (.slice (some ⟨w.heap.size, 0, none⟩) p p) (w.alloc (.cells (itV (List.replicate p 0)).toArray 3)) := fun w => make_zeroI p (by omega) w
    have hown := OwnI.lit w (List.replicate p 0) (by rw [List.length_replicate]; exact Nat.le_trans hp1.2 (by decide))
    rw [List.length_replicate] at hown
    have HS : Hid (RSp B ((w.alloc (.cells (itV (List.replicate p 0)).toArray 3)).alloc (.cells #[.slice (some ⟨w.heap.size, 0, none⟩) p p] 64)) [w.heap.size + 1, w.heap.size] (w.heap.size + 1) (List.replicate p 0)) := Lib.hid ⟨w.heap.size, p, rfl, by omega, by omega, by rw [List.length_replicate]; exact heap_alloc_at _ _ _ (by simp), by rw [List.length_replicate]; exact (hown.alloc _).base hB, fun x hx => .inl (List.eq_of_mem_replicate hx), by rw [List.length_replicate]; exact hp1⟩
    clear hown
    go_enter Try.func11, Try.ntmps11
    go_wp2_with fail
    go_loopw [7] (fun i wr => ∃ (k : Nat) (M : List Int), k ≤ n ∧ i = .int .i64 (k : Int) ∧ Hid (newF (List.replicate p 0) (us.take k) = some M) ∧ Hid (RSp B wr [w.heap.size + 1, w.heap.size] (w.heap.size + 1) M ∧ Below w.heap.size w wr)) (fun i _ => n - (intOf i).toNat)
    case atStart => exact ⟨0, _, Nat.zero_le _, rfl, Lib.hid rfl, Lib.hid ⟨HS.out, below2 _ _ _⟩⟩
    case round =>
      obtain ⟨k, M, hk, rfl, HF, HR⟩ := hrel
      obtain ⟨⟨g, c', e, hne, hB1, hbox, hrow, h3, h4, h5⟩, hb⟩ := HR.out
      have e : w.heap.size = g := by injection e with _ e; injection e
      subst e
      have hlen : M.length = p := by rw [newF_len HF.out, List.length_replicate]
      have c0 := row_cells hbox 0
      rw [hlen] at c0
      by_cases hlt : k < n
      · obtain ⟨b0, o0, u, rfl, hu, cu⟩ := (HI.out.1.then_ hb).one (i := k) (by rw [HI.out.2.1]; exact hlt)
        have hnew := newF_at HF.out hu
        have huo := HI.out.2.2 u (List.mem_of_getElem? hu)
        unfold okInt at huo
        by_cases hin : 0 ≤ u ∧ u < p
        · obtain ⟨j, rfl⟩ : ∃ j : Nat, u = j := ⟨u.toNat, by omega⟩
          obtain ⟨x, hx⟩ : ∃ x, M[j]? = some x := ⟨_, List.getElem?_eq_getElem (by omega)⟩
          obtain ⟨cj, fj⟩ := hrow.at_ hx
          have hjp : j < p := by omega
          by_cases h0 : x = 0
          · subst h0
            have hset := RSp.set hne hB1 hbox hrow h3 ⟨h4, h5⟩ j (x := 1) (.inr (.inl rfl))
            have hb2 := Only.lower hb hset.1 (fun b hb => by
              rcases List.mem_cons.1 hb with rfl | hb
              · omega
              · rw [List.mem_singleton.1 hb]; exact Nat.le_refl _) hb.size
            have H2 := Lib.hid (And.intro hset.2 hb2)
            have hn2 : newF (List.replicate p 0) (us.take (k + 1)) = some (M.set j 1) := by
              rw [hnew.2, newF, if_pos ⟨by omega, by rw [Int.toNat_natCast]; exact hx⟩, Int.toNat_natCast]; rfl
            have HN2 := Lib.hid hn2
            clear hset hb2 hbox hrow h3 h4 h5 hx hnew hn2 hu
            go_wp2_with fail
            go_roundw
            case rel => exact ⟨k + 1, _, by omega, by go_num, HN2, H2⟩
            case measure => simp [intOf]; omega
          · have hx1 : (x != 0) = true := by simp [h0]
            have hbad : newP (p : Int) us = none := by
              rw [HNP.out, hnew.1, newF, if_neg (fun h => by have h6 := h.2; rw [Int.toNat_natCast, hx] at h6; injection h6 with h6; exact h0 h6)]
            have HB := Lib.hid hbad
            clear hbox hrow h3 h4 h5 hx hnew hbad hu
            go_wp2_with fail
            go_ret2
            exact ⟨hb, .inl ⟨HB.out, rfl⟩⟩
        · have hbad : newP (p : Int) us = none := by
            rw [HNP.out, hnew.1, newF, if_neg (fun h => by have h6 := lt_of_get h.2; omega)]
          have HB := Lib.hid hbad
          clear hbox hrow h3 h4 h5 hnew hbad hu
          by_cases hneg : u < 0
          · go_wp2_with fail
            go_ret2
            exact ⟨hb, .inl ⟨HB.out, rfl⟩⟩
          · have hge : (p : Int) ≤ u := by omega
            go_wp2_with fail
            go_ret2
            exact ⟨hb, .inl ⟨HB.out, rfl⟩⟩
      · have hkn : k = n := by omega
        subst hkn
        have ht : us.take k = us := List.take_of_length_le (by rw [HI.out.2.1]; exact Nat.le_refl _)
        have hall := HF.out
        rw [ht, ← HNP.out] at hall
        have HB := Lib.hid hall
        clear hbox hrow h3 h4 h5 hall
        go_wp2_with fail
        go_ret2
        refine ⟨hb, .inr ⟨M, _, _, HB.out, by simp, HR.out.1, fun b hb => ?_⟩⟩
        rcases List.mem_cons.1 hb with rfl | hb
        · omega
        · rw [List.mem_singleton.1 hb]; exact Nat.le_refl _
  · have hbad : newP pages us = none := by unfold newP; rw [if_neg hpg]
    have HB := Lib.hid hbad
    clear hbad
    go_enter Try.func11, Try.ntmps11
    by_cases h1 : pages < 1
    · go_wp2_with fail
      go_ret2
      exact ⟨Below.refl _ _, .inl ⟨HB.out, rfl⟩⟩
    · have h2 : pages > 65536 := by omega
      go_wp2_with fail
      go_ret2
      exact ⟨Below.refl _ _, .inl ⟨HB.out, rfl⟩⟩
end Go.Proofs.Yteoekfmjlmpmgaa
