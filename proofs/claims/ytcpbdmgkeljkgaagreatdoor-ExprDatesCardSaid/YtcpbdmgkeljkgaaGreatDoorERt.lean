/- Reading: what stands for itself. No statement is proved here. -/
import Derived.Test.YtcpbdmgkeljkgaaGreatDoorENo
import Derived.Test.YtcpbdmgkeljkgaaGreatDoorESpl
import Derived.Test.YtcpbdmgkeljkgaaGreatDoorCloneY
namespace Go.Proofs.YtcpbdmgkeljkgaaGreatDoor
open Go.RowKit
set_option maxRecDepth 100000

/-- The world that reading wants: the library's tables. -/
def EnvR (w : World) : Prop := Tabs w ∧ ∃ m : Int, w.cell? ⟨Tryz.laysSplitN_ren.g 1, 0, none⟩ = some (.int .i64 m)
theorem EnvR.then_ {w w' : World} (h : EnvR w) (hb : Below w.heap.size w w') : EnvR w' := by
  obtain ⟨h1, m, h2⟩ := h
  exact ⟨h1.then_ hb, m, (hb.cell (World.block_lt_of_cell? w _ h2)).trans h2⟩
theorem cell_onlyS {w w' : World} {S : List Nat} {p : Addr} {v : Value} (h : w.cell? p = some v) (ho : Only S w w') (hn : p.block ∉ S) : w'.cell? p = some v := by
  have hlt := World.block_lt_of_cell? w p h
  have := ho.block p.block hlt hn
  unfold World.cell? at h ⊢
  rw [this]
  exact h
theorem T.In.onlyS {t : T} {w w' : World} {S : List Nat} (h : t.In w) (ho : Only S w w') (hn : ∀ b ∈ S, ∀ p ∈ t.places, p.1.block ≠ b) : t.In w' := fun p hp => cell_onlyS (h p hp) ho (fun hc => hn _ hc p hp rfl)
/-- The scope of the document alone. -/
def ScopeAt (w : World) (gs : Nat) : Prop := w.cell? ⟨gs, 0, none⟩ = some (.string ⟨#[82, 79, 79, 84]⟩)
theorem ScopeAt.then_ {w w' : World} {gs : Nat} (h : ScopeAt w gs) (hb : Below w.heap.size w w') : ScopeAt w' gs := (hb.cell (World.block_lt_of_cell? w _ h)).trans h
theorem Ev.then_ {W W' : World} {d : T} {u : TypeId} {x : Value} {k : Nat} {R : T → Prop} {err : Int} (h : Ev W d u x k R err) (hb : Below W.heap.size W W') : Ev W' d u x k R err := by
  obtain ⟨gF, hm, hE⟩ := h
  refine ⟨gF, hm, fun w g gb n hbw hg hw hn => (hE w g gb n (hb.trans (hbw.mono hb.size)) (Nat.le_trans hb.size hg) hw hn).mono ?_⟩
  rintro e w' ⟨r, he, hR, hok, hin, hout, ho, hrow⟩
  exact ⟨r, he, hR, hok, hin, fun p hp => (hout p hp).imp (fun h => Nat.lt_of_lt_of_le h hb.size) id, ho, hrow⟩
/-- A value reads as an expression that comes, of the document d, to what R says; also where blocks have turned that the value does not lie in. -/
def Reads (d t : T) (k : Nat) (R : T → Prop) (err : Int) : Prop :=
  ∀ (w : World) (gs : Nat), EnvR w → ScopeAt w gs → t.In w → Calls Tryz.prog 16 #[t.arg, .slice (some ⟨gs, 0, none⟩) 1 1] w fun e w' => ∃ u x, e = .returned (.iface u x) ∧ Below w.heap.size w w' ∧ ∀ (S : List Nat) (W' : World), (∀ b ∈ S, b < w.heap.size ∧ ∀ p ∈ t.places, p.1.block ≠ b) → Only S w' W' → Ev W' d u x k R err
set_option maxHeartbeats 2000000 in
/-- What is no text, list or document stands for itself. -/
theorem reads_plain (d t : T) (ok : t.ok) (h : ∀ k n s la lc l da dc f, t = .mk k n s la lc l da dc f → k ≠ 4 ∧ k ≠ 5 ∧ k ≠ 6) : Reads d t 0 (fun r => r = t) 0 := by
  intro w gs henv hs hin
  have HR := Lib.hid (fun W h => plain_ev (W := W) d t h ok)
  have HI := Lib.hid hin
  obtain ⟨k, n, s, la, lc, l, da, dc, f⟩ := t
  obtain ⟨h4, h5, h6⟩ := h _ _ _ _ _ _ _ _ _ rfl
  have k4 : (k == 4) = false := by simpa using h4
  have k5 : (k == 5) = false := by simpa using h5
  have k6 : (k == 6) = false := by simpa using h6
  show Calls _ _ #[.agg #[.int .i64 k, .int .i64 n, .string s, .slice la l.length lc, .slice da f.length dc], _] _ _
  clear henv hs hin h ok h4 h5 h6
  go_enter Tryz.func16, Tryz.ntmps16
  go_wp2_with fail
  go_ret
  exact ⟨_, _, rfl, below1 _ _, fun S W' hS ho => HR.out _ ((HI.out.then_ (below1 _ _)).onlyS ho (fun b hb => (hS b hb).2))⟩
theorem slcut_no {s p : ByteArray} (h : Lib.hasPrefix s.data.toList p.data.toList = false) (w : World) : Calls Tryz.prog 41 #[.string s, .string p] w fun e w' => e = .returned (.tuple #[.string s, .bool false]) ∧ w' = w := by
  have HP := Lib.hid (fun w => Any.stringslite_HasPrefix { Tryz.laysPrefix with } s p w)
  rw [h] at HP
  go_enter Tryz.func41, Tryz.ntmps41
  go_wp2_with fail
  refine (HP.out _).mono ?_
  rintro e w1 ⟨rfl, rfl⟩
  go_wp2_with fail
  go_ret2
  exact ⟨rfl, rfl⟩
theorem cut_no {s p : ByteArray} (h : Lib.hasPrefix s.data.toList p.data.toList = false) (w : World) : Calls Tryz.prog 32 #[.string s, .string p] w fun e w' => e = .returned (.tuple #[.string s, .bool false]) ∧ w' = w := by
  have HP := Lib.hid (fun w => slcut_no h w)
  go_enter Tryz.func32, Tryz.ntmps32
  go_wp2_with fail
  refine (HP.out _).mono ?_
  rintro e w1 ⟨rfl, rfl⟩
  go_wp2_with fail
  go_ret2
  exact ⟨rfl, rfl⟩
theorem slcut_yes {s p : ByteArray} (h : Lib.hasPrefix s.data.toList p.data.toList = true) (hp : p.size = 1) (hs : 1 ≤ s.size) (hs2 : s.size ≤ 140737488351232) (w : World) : Calls Tryz.prog 41 #[.string s, .string p] w fun e w' => e = .returned (.tuple #[.string (s.extract 1 s.size), .bool true]) ∧ w' = w := by
  have HP := Lib.hid (fun w => Any.stringslite_HasPrefix { Tryz.laysPrefix with } s p w)
  rw [h] at HP
  go_enter Tryz.func41, Tryz.ntmps41
  go_wp2_with fail
  refine (HP.out _).mono ?_
  rintro e w1 ⟨rfl, rfl⟩
  go_wp2_with fail
  go_ret2
  exact ⟨rfl, rfl⟩
theorem cut_yes {s p : ByteArray} (h : Lib.hasPrefix s.data.toList p.data.toList = true) (hp : p.size = 1) (hs : 1 ≤ s.size) (hs2 : s.size ≤ 140737488351232) (w : World) : Calls Tryz.prog 32 #[.string s, .string p] w fun e w' => e = .returned (.tuple #[.string (s.extract 1 s.size), .bool true]) ∧ w' = w := by
  have HP := Lib.hid (fun w => slcut_yes h hp hs hs2 w)
  go_enter Tryz.func32, Tryz.ntmps32
  go_wp2_with fail
  refine (HP.out _).mono ?_
  rintro e w1 ⟨rfl, rfl⟩
  go_wp2_with fail
  go_ret2
  exact ⟨rfl, rfl⟩
/-- A text. -/
def txtT (s : ByteArray) : T := .mk 4 0 s none 0 [] none 0 []
theorem txtT_arg (s : ByteArray) : (txtT s).arg = .agg #[.int .i64 4, .int .i64 0, .string s, .slice none 0 0, .slice none 0 0] := rfl
theorem txtT_places (s : ByteArray) : (txtT s).places = [] := by simp [txtT, T.places, T.placesL, T.placesD]
theorem txtT_in (s : ByteArray) (w : World) : (txtT s).In w := by intro p hp; rw [txtT_places] at hp; simp at hp
theorem txtT_ok {s : ByteArray} (h : okLen s.size) : (txtT s).ok := by
  simp [txtT, T.ok, T.okL, T.okD, okInt, okLen, okFar] at h ⊢
  exact h
set_option maxHeartbeats 2000000 in
/-- A text that does not begin with $ stands for itself. -/
theorem reads_word (d : T) {s : ByteArray} (hs1 : okLen s.size) (h1 : Lib.hasPrefix s.data.toList [36, 36] = false) (h2 : Lib.hasPrefix s.data.toList [36] = false) : Reads d (txtT s) 0 (fun r => r = txtT s) 0 := by
  intro w gs henv hs hin
  have HR := Lib.hid (fun W => plain_ev (W := W) d (txtT s) (txtT_in s W) (txtT_ok hs1))
  have H1 := Lib.hid (fun w => cut_no (s := s) (p := ⟨#[36, 36]⟩) h1 w)
  have H2 := Lib.hid (fun w => cut_no (s := s) (p := ⟨#[36]⟩) h2 w)
  have HT : Hid (∀ w : World, Calls Tryz.prog 21 #[.agg #[.int .i64 4, .int .i64 0, .string s, .slice none 0 0, .slice none 0 0], .slice (some ⟨gs, 0, none⟩) 1 1] w fun e w' => e = .returned (.iface 65 (.agg #[.int .i64 4, .int .i64 0, .string s, .slice none 0 0, .slice none 0 0])) ∧ Below w.heap.size w w') := by
    apply Lib.hid
    intro w
    go_enter Tryz.func21, Tryz.ntmps21
    go_wp2_with fail
    refine (H1.out _).mono ?_
    rintro e w1 ⟨rfl, rfl⟩
    go_wp2_with fail
    refine (H2.out _).mono ?_
    rintro e w1 ⟨rfl, rfl⟩
    go_wp2_with fail
    go_ret
    exact ⟨rfl, below1 _ _⟩
  rw [txtT_arg] at HR ⊢
  clear henv hs hin
  go_enter Tryz.func16, Tryz.ntmps16
  go_wp2_with fail
  refine (HT.out _).mono ?_
  rintro e w1 ⟨rfl, b1⟩
  go_wp2_with fail
  go_ret
  exact ⟨_, _, rfl, below_then (below1 _ _) b1, fun S W' hS ho => HR.out _⟩
end Go.Proofs.YtcpbdmgkeljkgaaGreatDoor
