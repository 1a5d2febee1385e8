/- The law ValueSorts over its contracts: no statement is proved here. -/
import Derived.Test.YtlmlehjfockkpaaDoorStock
import Derived.Test.YtlmlehjfockkpaaDoorSpoil
import Derived.Test.YtlmlehjfockkpaaDoorRefSort
namespace Go.Proofs.YtlmlehjfockkpaaDoor
open Go.RowKit
set_option maxRecDepth 100000

/-- A list as a value. -/
def asV (a : Option Addr) (c : Nat) (ts : List T) : T := .mk 0 0 ⟨#[]⟩ a c ts none 0 []
theorem asV_own {w : World} {B : Nat} {a : Option Addr} {c : Nat} {ts : List T} (h : OwnL w B a c ts) : (asV a c ts).Own w B := by
  refine own_mk (by simp [okInt]) (by simp [okInt]) (by simp [okLen, ByteArray.size]) h ⟨by simp, by simp [okFar], by simp, by simp, fun r hr => ?_, by simp [blocksOf, Value.ownBlock]⟩ (by simp [blocksOf, Value.ownBlock])
  simp at hr
  subst hr
  exact World.ownsRow_nil _ _ _ _
/-- Sort yields a list of its own. -/
def SortsOwn (l : List V) (w : World) (e : Ending) (w' : World) : Prop :=
  ∃ a c ts, e = .returned (.slice a ts.length c) ∧ ts.map T.val = sortG cmpV l ∧ (asV a c ts).Own w' w.heap.size ∧ Below w.heap.size w w'
theorem sorts_own {l : List T} {w : World} {e : Ending} {w' : World} (h : SortTo l w e w') : SortsOwn (l.map T.val) w e w' := by
  obtain ⟨a, c, ts, rfl, hv, ho, hb⟩ := h
  have hl : ts.length = l.length := by
    have h1 := congrArg List.length hv
    rw [sortG_len] at h1
    simpa using h1
  exact ⟨a, c, ts, by rw [hl], hv, asV_own ho, hb⟩
theorem asV_room {a : Option Addr} {c m : Nat} {ts : List T} {l : List V} (hm : m ≤ 1000) (hv : ts.map T.val = sortG cmpV l) (hr : ∀ x ∈ l, x.room m) : (asV a c ts).val.room m := by
  rw [asV, T.room_mk]
  refine ⟨by simp; omega, fun x hx => hr _ (sortG_mem.1 (by rw [← hv]; exact List.mem_map_of_mem hx)), by simp⟩
theorem asV_ok {w : World} {B : Nat} {a : Option Addr} {c : Nat} {ts : List T} (h : (asV a c ts).Own w B) : ∀ x ∈ ts, x.ok := h.ok.parts.2.2.2.2.2.2.2.2.2.1

set_option maxHeartbeats 4000000 in
theorem sorts_law (la : Option Addr) (lc : Nat) (l : List T) (w : World) (hl : InL w la l) (hc : l.length ≤ lc ∧ lc ≤ 9223372036854775807) (hb : okLen (l.length * 80)) (hn : la = none → lc = 0) (hok : ∀ x ∈ l, x.ok) (hroom : ∀ x ∈ l, x.val.room 42) (hT : Tabs w) :
    Calls Tryd.prog 6 #[.slice la l.length lc] w fun e w' => e = .returned (.bool true) ∧ Below w.heap.size w w' := by
  have OA := Lib.hid (show T.ok (.mk 6 0 ⟨#[]⟩ la lc l none 0 []) by simp only [T.ok, T.okL_iff, T.okD_iff]; exact ⟨by simp [okInt], by simp [okInt], by simp [okLen, ByteArray.size], hc, hb, hn, by simp, by simp [okFar], by simp, hok, by simp⟩)
  have HA := Lib.hid (show T.In w (.mk 6 0 ⟨#[]⟩ la lc l none 0 []) from T.In.of_parts hl (by intro p hp; simp [T.placesD] at hp))
  have HL := Lib.hid hl
  have HK := Lib.hid hok
  have HR := Lib.hid hroom
  have HT := Lib.hid hT
  have hb80 : l.length * 80 ≤ 140737488351232 := hb
  have hl63 : l.length ≤ 9223372036854775807 := by omega
  clear hl hok hroom hT hn hb
  have ST := Lib.hid (Stock.start w)
  by_cases h3 : 300 < l.length
  · go_enter Tryd.func6, Tryd.ntmps6
    go_wp2_with fail
    refine (awake_any _ HT.out).mono ?_
    rintro e w1 ⟨rfl, b1⟩
    have HB := Lib.hid b1
    clear b1
    go_wp2_with fail
    go_ret
    exact ⟨rfl, HB.out⟩
  go_enter Tryd.func6, Tryd.ntmps6
  go_wp2_with fail
  refine (awake_any _ HT.out).mono ?_
  rintro e w1 ⟨rfl, b1⟩
  have z1 := b1.size
  replace ST := Lib.hid ((ST.out.then_ b1).box_add [.int .i64 6, .int .i64 0, .string ⟨#[]⟩, .slice la l.length lc, .slice none 0 0])
  clear b1
  go_wp2_with fail
  refine (lent_any (.mk 6 0 ⟨#[]⟩ la lc l none 0 []) OA.out _ (HA.out.then_ ST.out.below)).mono ?_
  rintro e w2 ⟨i, rfl, vi, mi, b2⟩
  have z2 := b2.size
  simp only [World.size_alloc] at z2
  replace ST := Lib.hid (ST.out.mark_add b2 mi)
  rw [World.size_alloc] at ST
  obtain ⟨ki, ni, ti, ai, ci, li, bi, ei, di⟩ := i
  dsimp only [T.arg, T.cells]
  have VI := Lib.hid vi
  replace ST := Lib.hid (ST.out.box_add [.int .i64 ki, .int .i64 ni, .string ti, .slice ai li.length ci, .slice bi di.length ei])
  clear b2 mi vi
  have IOK := Lib.hid (ST.out.mark _ m0).1.ok
  have hib := IOK.out.parts.2.2.2.2.2.2.1
  go_wp2_with fail
  refine (sort_any ai ci li _ (ST.out.mark _ m0).1.in_.parts.1 hib IOK.out.parts.2.2.2.2.2.2.2.2.2.1).mono ?_
  intro e w3 hs3
  obtain ⟨au, cu, ts, rfl, vs, os, b3⟩ := sorts_own hs3
  have z3 := b3.size
  simp only [World.size_alloc] at z3
  replace ST := Lib.hid (ST.out.own_add b3 os)
  rw [World.size_alloc] at ST
  have VS := Lib.hid vs
  clear b3 os vs hs3
  have fi : ∀ o, w3.cell? ⟨w2.heap.size, o, none⟩ = (#[.int .i64 ki, .int .i64 ni, .string ti, .slice ai li.length ci, .slice bi di.length ei] : Array Value)[o]? := ST.out.cells m0
  go_wp2_with fail
  refine (clone_any (.mk ki ni ti ai ci li bi ei di) IOK.out _ (ST.out.mark _ m0).1.in_).mono ?_
  rintro e w4 ⟨g, rfl, vg, og, b4⟩
  have z4 := b4.size
  replace ST := Lib.hid (ST.out.own_add b4 og)
  obtain ⟨kg, ng, tg, ag, cg, lg, bg, eg, dg⟩ := g
  dsimp only [T.arg, T.cells]
  have VG := Lib.hid vg
  replace ST := Lib.hid (ST.out.box_add [.int .i64 kg, .int .i64 ng, .string tg, .slice ag lg.length cg, .slice bg dg.length eg])
  clear b4 og vg fi
  have fi : ∀ o, (w4.alloc (.cells [.int .i64 kg, .int .i64 ng, .string tg, .slice ag lg.length cg, .slice bg dg.length eg].toArray 25)).cell? ⟨w2.heap.size, o, none⟩ = (#[.int .i64 ki, .int .i64 ni, .string ti, .slice ai li.length ci, .slice bi di.length ei] : Array Value)[o]? := ST.out.cells m1
  have fa : ∀ o, (w4.alloc (.cells [.int .i64 kg, .int .i64 ng, .string tg, .slice ag lg.length cg, .slice bg dg.length eg].toArray 25)).cell? ⟨w1.heap.size, o, none⟩ = (#[.int .i64 6, .int .i64 0, .string ⟨#[]⟩, .slice la l.length lc, .slice none 0 0] : Array Value)[o]? := ST.out.cells m2
  go_wp2_with fail
  refine (kept_any (.mk ki ni ti ai ci li bi ei di) (.mk 6 0 ⟨#[]⟩ la lc l none 0 []) _ _ (ST.out.mark _ m0).1 OA.out (HA.out.then_ ST.out.below) (In.apart HA.out (ST.out.mark _ m0).1 (by omega)) VI.out).mono ?_
  rintro e w5 ⟨rfl, o5⟩
  have z5 := o5.size
  simp only [World.size_alloc] at z5
  replace ST := Lib.hid ((ST.out.sub (mk' := []) (fun _ h => h) (fun _ h => h) all_nil).only _ _ o5 (ST.out.rangeM m0) (by omega) (by repeat' first | exact all_nil | refine all_cons (by dsimp only; omega) ?_) (by repeat' first | exact all_nil | refine all_cons (by dsimp only; omega) ?_) all_nil)
  clear o5 fi fa
  go_wp2_with fail
  refine (refSort_any la lc l _ (HL.out.then_ ST.out.below) hb80 HK.out).mono ?_
  intro e w6 hs6
  obtain ⟨ar, cr, rs, rfl, vr, or, b6⟩ := sorts_own hs6
  have z6 := b6.size
  replace ST := Lib.hid (ST.out.own_add b6 or)
  have VR := Lib.hid vr
  clear b6 or vr hs6
  go_wp2_with fail
  have HE := Lib.hid (show ts.map T.val = rs.map T.val by rw [VS.out, VR.out]; have h := VI.out; rw [T.val_mk, T.val_mk] at h; injection h with _ _ _ h4 _; rw [h4])
  have HLEN := Lib.hid (show rs.length = ts.length by have := congrArg List.length HE.out; simpa using this.symm)
  rw [HLEN.out]
  refine (sameList_any au ar cu cr ts.length ts rs _ rfl HLEN.out (ST.out.own _ m2).1.in_.parts.1 (ST.out.own _ m0).1.in_.parts.1 (by have := (ST.out.own _ m2).1.ok.parts.2.2.2.2.2.2.1; omega) (asV_ok (ST.out.own _ m2).1) (asV_ok (ST.out.own _ m0).1) HE.out).mono ?_
  rintro e w7 ⟨rfl, b7⟩
  have z7 := b7.size
  replace ST := Lib.hid (ST.out.then_ b7)
  clear b7
  have fg : ∀ o, w7.cell? ⟨w4.heap.size, o, none⟩ = (#[.int .i64 kg, .int .i64 ng, .string tg, .slice ag lg.length cg, .slice bg dg.length eg] : Array Value)[o]? := ST.out.cells m0
  have fa : ∀ o, w7.cell? ⟨w1.heap.size, o, none⟩ = (#[.int .i64 6, .int .i64 0, .string ⟨#[]⟩, .slice la l.length lc, .slice none 0 0] : Array Value)[o]? := ST.out.cells m2
  go_wp2_with fail
  refine (same_any (.mk kg ng tg ag cg lg bg eg dg) (.mk 6 0 ⟨#[]⟩ la lc l none 0 []) _ (ST.out.own _ m1).1.ok OA.out (ST.out.own _ m1).1.in_ (HA.out.then_ ST.out.below)).mono ?_
  rintro e w8 ⟨rfl, b8⟩
  rw [same_self (show (T.mk kg ng tg ag cg lg bg eg dg).val = (T.mk 6 0 ⟨#[]⟩ la lc l none 0 []).val by rw [VG.out, VI.out])]
  have z8 := b8.size
  replace ST := Lib.hid (ST.out.then_ b8)
  clear b8 fg fa
  go_wp2_with fail
  refine (spoil_any (asV au cu ts) _ ((ST.out.own _ m2).1.keep (Only.refl [] _) (by simp) (Nat.zero_le _)) (asV_room (by omega) VS.out (fun x hx => ?_))).mono ?_
  · have h := VI.out; rw [T.val_mk, T.val_mk] at h; injection h with _ _ _ h4 _; rw [h4] at hx; obtain ⟨y, hy, rfl⟩ := List.mem_map.1 hx; exact V.room.less _ (by omega) (HR.out y hy)
  rintro e w9 ⟨rfl, o9⟩
  have z9 := o9.size
  replace ST := Lib.hid ((ST.out.sub (ow' := [_]) (fun _ h => h) (all_cons m1 all_nil) all_nil).only _ _ o9 (ST.out.rangeO m2) (by omega) (by repeat' first | exact all_nil | refine all_cons (by dsimp only; omega) ?_) (by repeat' first | exact all_nil | refine all_cons (by dsimp only; omega) ?_) all_nil)
  clear o9
  have fg : ∀ o, w9.cell? ⟨w4.heap.size, o, none⟩ = (#[.int .i64 kg, .int .i64 ng, .string tg, .slice ag lg.length cg, .slice bg dg.length eg] : Array Value)[o]? := ST.out.cells m0
  have fa : ∀ o, w9.cell? ⟨w1.heap.size, o, none⟩ = (#[.int .i64 6, .int .i64 0, .string ⟨#[]⟩, .slice la l.length lc, .slice none 0 0] : Array Value)[o]? := ST.out.cells m2
  go_wp2_with fail
  refine (same_any (.mk kg ng tg ag cg lg bg eg dg) (.mk 6 0 ⟨#[]⟩ la lc l none 0 []) _ (ST.out.own _ m0).1.ok OA.out (ST.out.own _ m0).1.in_ (HA.out.then_ ST.out.below)).mono ?_
  rintro e w10 ⟨rfl, b10⟩
  rw [same_self (show (T.mk kg ng tg ag cg lg bg eg dg).val = (T.mk 6 0 ⟨#[]⟩ la lc l none 0 []).val by rw [VG.out, VI.out])]
  replace ST := Lib.hid (ST.out.then_ b10)
  clear b10 fg fa
  go_wp2_with fail
  go_ret
  exact ⟨rfl, ST.out.below⟩
end Go.Proofs.YtlmlehjfockkpaaDoor
