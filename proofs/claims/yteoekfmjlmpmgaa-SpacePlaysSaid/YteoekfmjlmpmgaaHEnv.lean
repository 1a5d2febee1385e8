/- What layer 13's statements need of the program: its calls' contracts, in one; and the document's examples. No statement is proved here. -/
import Derived.Test.YteoekfmjlmpmgaaYI
import Derived.Test.YteoekfmjlmpmgaaHPure
namespace Go.Proofs.Yteoekfmjlmpmgaa
open Go.RowKit
set_option maxRecDepth 100000

theorem Only.lower {F : List Nat} {B : Nat} {a w w' : World} (h : Below B a w) (k : Only F w w') (hF : ∀ b ∈ F, B ≤ b) (hB : B ≤ w.heap.size) : Below B a w' :=
  ⟨k.os.trans h.os, k.tape.trans h.tape, k.output.trans h.output, Nat.le_trans h.size k.size, fun i hi => (k.block i (Nat.lt_of_lt_of_le hi hB) fun hn => by have := hF i hn; omega).trans (h.block i hi)⟩
/-- A call on a space: what it tells, and how the space lies then. -/
def SpTo (Sp : World → List Nat → Nat → List Int → Prop) (w : World) (F : List Nat) (a : Nat) (L' : List Int) (r : Value) (e : Ending) (w' : World) : Prop :=
  e = .returned r ∧ Only F w w' ∧ ∃ F', Sp w' F' a L' ∧ ∀ b ∈ F', b ∈ F ∨ w.heap.size ≤ b
/-- What New tells. -/
def NewTo (Sp : World → List Nat → Nat → List Int → Prop) (pages : Int) (us : List Int) (w : World) (e : Ending) (w' : World) : Prop :=
  Below w.heap.size w w' ∧ ((newP pages us = none ∧ e = .returned (.tuple #[.pointer none, .int .i64 1])) ∨ ∃ M F a, newP pages us = some M ∧ e = .returned (.tuple #[.pointer (some ⟨a, 0, none⟩), .int .i64 0]) ∧ Sp w' F a M ∧ ∀ b ∈ F, w.heap.size ≤ b)
/-- The program's calls answer so, in every world that has grown out of W. -/
structure P13 (W : World) (Sp : World → List Nat → Nat → List Int → Prop) : Prop where
  lt : ∀ {w : World} {F : List Nat} {a : Nat} {L : List Int}, Sp w F a L → ∀ b ∈ F, W.heap.size ≤ b ∧ b < w.heap.size
  keep : ∀ {w w' : World} {F : List Nat} {a : Nat} {L : List Int}, Sp w F a L → (∀ b ∈ F, w'.heap[b]? = w.heap[b]?) → Sp w' F a L
  three : ∀ {w : World} {F : List Nat} {a : Nat} {L : List Int}, Sp w F a L → three L
  len : ∀ {w : World} {F : List Nat} {a : Nat} {L : List Int}, Sp w F a L → 1 ≤ L.length ∧ L.length ≤ 65536
  new : ∀ (pages : Int) (a : Option Addr) (n c : Nat) (us : List Int) (w : World), Below W.heap.size W w → okInt pages → InI w a us → us.length = n → n ≤ c → c ≤ maxLen → n ≤ 17592186044416 → (a = none → c = 0 ∧ us = []) → (∀ u ∈ us, okInt u) →
    Calls Try.prog 9 #[.int .i64 pages, .slice a n c] w (NewTo Sp pages us w)
  take : ∀ (F : List Nat) (a : Nat) (L : List Int) (w : World), Below W.heap.size W w → Sp w F a L →
    Calls Try.prog 18 #[.pointer (some ⟨a, 0, none⟩)] w (SpTo Sp w F a (takeL L) (.tuple #[.int .i64 (takeN L), .int .i64 (takeE L)]))
  drop : ∀ (F : List Nat) (a : Nat) (L : List Int) (n : Int) (w : World), Below W.heap.size W w → Sp w F a L → okInt n →
    Calls Try.prog 19 #[.pointer (some ⟨a, 0, none⟩), .int .i64 n] w (SpTo Sp w F a (setL L n 2) (.int .i64 (setE L n)))
  back : ∀ (F : List Nat) (a : Nat) (L : List Int) (n : Int) (w : World), Below W.heap.size W w → Sp w F a L → okInt n →
    Calls Try.prog 20 #[.pointer (some ⟨a, 0, none⟩), .int .i64 n] w (SpTo Sp w F a (setL L n 0) (.int .i64 (setE L n)))
  turn : ∀ (F : List Nat) (a : Nat) (L : List Int) (w : World), Below W.heap.size W w → Sp w F a L →
    Calls Try.prog 21 #[.pointer (some ⟨a, 0, none⟩)] w (SpTo Sp w F a (turnL L) (.int .i64 (manyOf 2 L)))
  free : ∀ (F : List Nat) (a : Nat) (L : List Int) (w : World), Below W.heap.size W w → Sp w F a L →
    Calls Try.prog 17 #[.pointer (some ⟨a, 0, none⟩)] w (SpTo Sp w F a L (.int .i64 (zerosN L)))
  used : ∀ (F : List Nat) (a : Nat) (L : List Int) (w : World), Below W.heap.size W w → Sp w F a L →
    Calls Try.prog 16 #[.pointer (some ⟨a, 0, none⟩)] w fun e w' => ∃ v1 v2 F', e = .returned (.tuple #[v1, v2]) ∧ Only F w w' ∧ Sp w' F' a L ∧ (∀ b ∈ F', b ∈ F ∨ w.heap.size ≤ b) ∧
      OwnI w' w.heap.size v1 (areL L 1) ∧ OwnI w' w.heap.size v2 (areL L 2) ∧ (∀ g, v1.ownBlock = some g → v2.ownBlock ≠ some g ∧ g ∉ F') ∧ ∀ g, v2.ownBlock = some g → g ∉ F'
  clone : ∀ (F : List Nat) (a : Nat) (L : List Int) (w : World), Below W.heap.size W w → Sp w F a L →
    Calls Try.prog 12 #[.pointer (some ⟨a, 0, none⟩)] w fun e w' => ∃ F1 F2 b, e = .returned (.pointer (some ⟨b, 0, none⟩)) ∧ Only F w w' ∧ Sp w' F1 a L ∧ (∀ b ∈ F1, b ∈ F ∨ w.heap.size ≤ b) ∧ Sp w' F2 b L ∧ (∀ b ∈ F2, w.heap.size ≤ b) ∧ ∀ b ∈ F1, b ∉ F2
theorem P13.below {W : World} {Sp : World → List Nat → Nat → List Int → Prop} (P : P13 W Sp) {w w' : World} {F : List Nat} {a : Nat} {L : List Int} (h : Sp w F a L) (hb : Below w.heap.size w w') : Sp w' F a L := P.keep h fun b hb' => hb.block b (P.lt h b hb').2
theorem InI.litF (w : World) (bs : List Int) (fr : Nat × Nat) : InI (w.alloc (.cells (itV bs).toArray 3 fr)) (some ⟨w.heap.size, 0, none⟩) bs := fun i x hx => by
  refine ⟨w.heap.size, 0, rfl, ?_⟩
  rw [World.cell?_alloc_mark]
  simp [itV, hx]
/-- A space with which one goes on: all its blocks are new since the world w0. -/
structure SpAt (Sp : World → List Nat → Nat → List Int → Prop) (W w0 : World) (w : World) (a : Nat) (L : List Int) : Prop where
  sp : ∃ F, Sp w F a L ∧ ∀ b ∈ F, w0.heap.size ≤ b
  low : Below w0.heap.size w0 w
  top : Below W.heap.size W w
theorem SpTo.at_ {Sp : World → List Nat → Nat → List Int → Prop} {W w0 w w' : World} {F : List Nat} {a : Nat} {L' : List Int} {r : Value} {e : Ending} (h : SpTo Sp w F a L' r e w') (hF : ∀ b ∈ F, w0.heap.size ≤ b) (low : Below w0.heap.size w0 w) (top : Below W.heap.size W w) (hW : W.heap.size ≤ w0.heap.size) : e = .returned r ∧ SpAt Sp W w0 w' a L' := by
  obtain ⟨he, ho, F', h1, h2⟩ := h
  exact ⟨he, ⟨F', h1, fun b hb => by rcases h2 b hb with h3 | h3; exact hF b h3; exact Nat.le_trans low.size h3⟩, Only.lower low ho hF low.size, Only.lower top ho (fun b hb => Nat.le_trans hW (hF b hb)) top.size⟩
theorem SpAt.take {W w0 w : World} {Sp : World → List Nat → Nat → List Int → Prop} {a : Nat} {L : List Int} (P : P13 W Sp) (hW : W.heap.size ≤ w0.heap.size) (h : SpAt Sp W w0 w a L) :
    Calls Try.prog 18 #[.pointer (some ⟨a, 0, none⟩)] w fun e w' => e = .returned (.tuple #[.int .i64 (takeN L), .int .i64 (takeE L)]) ∧ SpAt Sp W w0 w' a (takeL L) := by
  obtain ⟨F, h1, h2⟩ := h.sp
  exact (P.take F a L w h.top h1).mono fun e w' k => k.at_ h2 h.low h.top hW
theorem SpAt.drop {W w0 w : World} {Sp : World → List Nat → Nat → List Int → Prop} {a : Nat} {L : List Int} (P : P13 W Sp) (hW : W.heap.size ≤ w0.heap.size) (h : SpAt Sp W w0 w a L) (n : Int) (hn : okInt n) :
    Calls Try.prog 19 #[.pointer (some ⟨a, 0, none⟩), .int .i64 n] w fun e w' => e = .returned (.int .i64 (setE L n)) ∧ SpAt Sp W w0 w' a (setL L n 2) := by
  obtain ⟨F, h1, h2⟩ := h.sp
  exact (P.drop F a L n w h.top h1 hn).mono fun e w' k => k.at_ h2 h.low h.top hW
theorem SpAt.back {W w0 w : World} {Sp : World → List Nat → Nat → List Int → Prop} {a : Nat} {L : List Int} (P : P13 W Sp) (hW : W.heap.size ≤ w0.heap.size) (h : SpAt Sp W w0 w a L) (n : Int) (hn : okInt n) :
    Calls Try.prog 20 #[.pointer (some ⟨a, 0, none⟩), .int .i64 n] w fun e w' => e = .returned (.int .i64 (setE L n)) ∧ SpAt Sp W w0 w' a (setL L n 0) := by
  obtain ⟨F, h1, h2⟩ := h.sp
  exact (P.back F a L n w h.top h1 hn).mono fun e w' k => k.at_ h2 h.low h.top hW
theorem SpAt.turn {W w0 w : World} {Sp : World → List Nat → Nat → List Int → Prop} {a : Nat} {L : List Int} (P : P13 W Sp) (hW : W.heap.size ≤ w0.heap.size) (h : SpAt Sp W w0 w a L) :
    Calls Try.prog 21 #[.pointer (some ⟨a, 0, none⟩)] w fun e w' => e = .returned (.int .i64 (manyOf 2 L)) ∧ SpAt Sp W w0 w' a (turnL L) := by
  obtain ⟨F, h1, h2⟩ := h.sp
  exact (P.turn F a L w h.top h1).mono fun e w' k => k.at_ h2 h.low h.top hW
theorem SpAt.free {W w0 w : World} {Sp : World → List Nat → Nat → List Int → Prop} {a : Nat} {L : List Int} (P : P13 W Sp) (hW : W.heap.size ≤ w0.heap.size) (h : SpAt Sp W w0 w a L) :
    Calls Try.prog 17 #[.pointer (some ⟨a, 0, none⟩)] w fun e w' => e = .returned (.int .i64 (zerosN L)) ∧ SpAt Sp W w0 w' a L := by
  obtain ⟨F, h1, h2⟩ := h.sp
  exact (P.free F a L w h.top h1).mono fun e w' k => k.at_ h2 h.low h.top hW
theorem SpAt.then_ {W w0 w w' : World} {Sp : World → List Nat → Nat → List Int → Prop} {a : Nat} {L : List Int} (P : P13 W Sp) (h : SpAt Sp W w0 w a L) (hb : Below w.heap.size w w') : SpAt Sp W w0 w' a L := by
  obtain ⟨F, h1, h2⟩ := h.sp
  exact ⟨⟨F, P.below h1 hb, h2⟩, below_then h.low hb, below_then h.top hb⟩
/-- A space is made behind the world w0. -/
def NewAt (Sp : World → List Nat → Nat → List Int → Prop) (W w0 : World) (pages : Int) (us : List Int) (e : Ending) (w' : World) : Prop :=
  (newP pages us = none ∧ e = .returned (.tuple #[.pointer none, .int .i64 1]) ∧ Below w0.heap.size w0 w' ∧ Below W.heap.size W w') ∨ ∃ M a, newP pages us = some M ∧ e = .returned (.tuple #[.pointer (some ⟨a, 0, none⟩), .int .i64 0]) ∧ SpAt Sp W w0 w' a M
theorem new_at {W w0 w : World} {Sp : World → List Nat → Nat → List Int → Prop} (P : P13 W Sp) (low : Below w0.heap.size w0 w) (top : Below W.heap.size W w) (pages : Int) (a : Option Addr) (n c : Nat) (us : List Int) (hp : okInt pages) (hi : InI w a us) (hn : us.length = n) (hc : n ≤ c) (hm : c ≤ maxLen) (hl : n ≤ 17592186044416) (h0 : a = none → c = 0 ∧ us = []) (hu : ∀ u ∈ us, okInt u) :
    Calls Try.prog 9 #[.int .i64 pages, .slice a n c] w (NewAt Sp W w0 pages us) := by
  refine (P.new pages a n c us w top hp hi hn hc hm hl h0 hu).mono fun e w' k => ?_
  obtain ⟨hb, k | ⟨M, F, b, h1, h2, h3, h4⟩⟩ := k
  · exact .inl ⟨k.1, k.2, below_then low hb, below_then top hb⟩
  · exact .inr ⟨M, b, h1, h2, ⟨F, h3, fun x hx => Nat.le_trans low.size (h4 x hx)⟩, below_then low hb, below_then top hb⟩
end Go.Proofs.Yteoekfmjlmpmgaa
