/- The law SpacePlays over the contracts. No statement is proved here. -/
import Derived.Test.YteoekfmjlmpmgaaHPl2
namespace Go.Proofs.Yteoekfmjlmpmgaa
open Go.RowKit
set_option maxRecDepth 100000

theorem OwnI.facts {w : World} {B n c : Nat} {a : Option Addr} {l : List Int} (h : OwnI w B (.slice a n c) l) : InI w a l ∧ (a = none → c = 0 ∧ l = []) ∧ n ≤ c ∧ c ≤ maxLen := by
  obtain ⟨a', c', e, h1, h2, h3, h4⟩ := h.shape
  injection e with e1 e2 e3
  subst e1 e2 e3
  exact ⟨h1, h2, h3, h4⟩
theorem csOf_turn (a b x y : Nat) : csOf 0 a b x y = csOf 1 b a y x := rfl
/-- A step, whichever side it is on. -/
theorem does_both {Sp : World → List Nat → Nat → List Int → Prop} {W w : World} {q a x b y : Nat} {L M : List Int} (P : P13 W Sp) (o : Op3) (ho : o.ok) (h : Wh Sp W w [] q (csOf 0 a b x y) a x b y L L M M) :
    Calls Try.prog 14 #[.pointer (some ⟨q, 0, none⟩), .agg #[.int .i64 o.on, .int .i64 o.act, .int .i64 o.n]] w (DoneTo Sp W q 0) := by
  obtain ⟨k, j, hkj, hk⟩ := i64_and1 o.on
  rcases (show k = 0 ∨ k = 1 by omega) with rfl | rfl
  · exact does_any P o ho hk hkj h
  · refine (does_any (a := b) (x := y) (b := a) (y := x) P o ho hk hkj (by rw [← csOf_turn]; exact h.swap)).mono ?_
    rintro e w' ⟨he, a', x', b', y', L', M', h'⟩
    exact ⟨he, b', y', a', x', M', L', by rw [csOf_turn]; exact h'.swap⟩
/-- Both sides made. -/
theorem Wh.made {Sp : World → List Nat → Nat → List Int → Prop} {W w4 w5 w6 : World} {F F1 F2 G G2 : List Nat} {a b x y : Nat} {M : List Int} (P : P13 W Sp) (top : Below W.heap.size W w4) (h1 : Sp w4 F a M) (h2 : RSp W.heap.size w4 G x M) (hd : Dj F G)
    (ho : Only F w4 w5) (k1 : Sp w5 F1 a M) (k2 : ∀ z ∈ F1, z ∈ F ∨ w4.heap.size ≤ z) (k3 : Sp w5 F2 b M) (k4 : ∀ z ∈ F2, w4.heap.size ≤ z) (k5 : ∀ z ∈ F1, z ∉ F2) (r1 : RSp W.heap.size w6 G2 y M) (r2 : ∀ z ∈ G2, w5.heap.size ≤ z) (hb : Below w5.heap.size w5 w6) :
    Wh Sp W (w6.alloc (.cells #[.pointer (some ⟨a, 0, none⟩), .pointer (some ⟨b, 0, none⟩), .pointer (some ⟨x, 0, none⟩), .pointer (some ⟨y, 0, none⟩)] 39)) [] w6.heap.size (csOf 0 a b x y) a x b y M M M M := by
  have hb7 := below1 w6 (.cells #[.pointer (some ⟨a, 0, none⟩), .pointer (some ⟨b, 0, none⟩), .pointer (some ⟨x, 0, none⟩), .pointer (some ⟨y, 0, none⟩)] 39)
  have hbb := below_then hb hb7
  have lF1 := P.lt k1
  have lF2 := P.lt k3
  have rG : RSp W.heap.size w5 G x M := h2.keep fun z hz => ho.block z (h2.lt z hz).2 fun hn => hd z hn hz
  have lG := rG.lt
  have lG4 := h2.lt
  have lG2 := r1.lt
  have s5 := hb.size
  have s7 := hb7.size
  have s4 := ho.size
  have t5 : Below W.heap.size W w5 := Only.lower top ho (fun z hz => (P.lt h1 z hz).1) top.size
  have z7 : (w6.alloc (.cells #[.pointer (some ⟨a, 0, none⟩), .pointer (some ⟨b, 0, none⟩), .pointer (some ⟨x, 0, none⟩), .pointer (some ⟨y, 0, none⟩)] 39)).heap.size = w6.heap.size + 1 := by simp
  have d1 : Dj F1 G := hd.more k2 fun z hz => (lG4 z hz).2
  have d2 : Dj F2 G := fun z hz hn => by have := k4 z hz; have := (lG4 z hn).2; omega
  refine ⟨⟨F1, G, F2, G2, ⟨P.keep k1 fun z hz => hbb.block z (lF1 z hz).2, rG.keep fun z hz => hbb.block z (lG z hz).2, d1, fun z hz hn => ?_, fun z hz hn => ?_, fun z hz => ?_⟩, ⟨P.keep k3 fun z hz => hbb.block z (lF2 z hz).2, r1.keep fun z hz => hb7.block z (lG2 z hz).2, fun z hz hn => ?_, fun z hz hn => ?_, fun z hz hn => ?_, fun z hz => ?_⟩⟩, heap_alloc_new w6 _, by have := t5.size; omega, t5.trans (hbb.mono t5.size)⟩
  · simp only [List.mem_append, List.mem_singleton] at hn
    rcases hn with (hn | hn) | hn
    · exact k5 z hz hn
    · have := (lF1 z hz).2; have := r2 z hn; omega
    · have := (lF1 z hz).2; omega
  · simp only [List.mem_append, List.mem_singleton] at hn
    rcases hn with (hn | hn) | hn
    · exact d2 z hn hz
    · have := (lG z hz).2; have := r2 z hn; omega
    · have := (lG z hz).2; omega
  · simp only [List.mem_append, List.mem_singleton] at hz
    rcases hz with (hz | hz) | hz
    · have := (lF2 z hz).2; omega
    · have := (lG2 z hz).2; omega
    · omega
  · have := (lF2 z hz).2; have := r2 z hn; omega
  · simp only [List.mem_append, List.mem_singleton] at hn
    rcases hn with (hn | hn) | hn
    · exact k5 z hn hz
    · exact d2 z hz hn
    · have := (lF2 z hz).2; omega
  · simp only [List.mem_append, List.mem_singleton] at hn
    rcases hn with (hn | hn) | hn
    · have := (lF1 z hn).2; have := r2 z hz; omega
    · have := (lG z hn).2; have := r2 z hz; omega
    · have := (lG2 z hz).2; omega
  · simp only [List.mem_append, List.mem_singleton] at hz
    rcases hz with (hz | hz) | hz
    · have := (lF1 z hz).2; omega
    · have := (lG z hz).2; omega
    · omega
/-- What New gave beside the row that was handed in: nothing, or a space off that row. -/
structure Given (Sp : World → List Nat → Nat → List Int → Prop) (W w : World) (v : Value) (l : List Int) (r : Option (Nat × List Int)) : Prop where
  row : OwnI w W.heap.size v l
  sp : ∀ a M, r = some (a, M) → SpK Sp W W w v.ownBlock.toList a M
  top : Below W.heap.size W w
theorem Given.then_ {Sp : World → List Nat → Nat → List Int → Prop} {W w w' : World} {v : Value} {l : List Int} {r : Option (Nat × List Int)} (P : P13 W Sp) (h : Given Sp W w v l r) (hb : Below w.heap.size w w') : Given Sp W w' v l r :=
  ⟨h.row.then_ hb, fun a M e => (h.sp a M e).then_ P hb, below_then h.top hb⟩
theorem Given.put {Sp : World → List Nat → Nat → List Int → Prop} {W w : World} {g n c : Nat} {l : List Int} {r : Option (Nat × List Int)} (P : P13 W Sp) (h : Given Sp W w (.slice (some ⟨g, 0, none⟩) n c) l r) (j : Nat) (x : Int) : Given Sp W (w.setCell ⟨g, j, none⟩ (.int .i64 x)) (.slice (some ⟨g, 0, none⟩) n c) (l.set j x) r := by
  obtain ⟨h1, h2⟩ := h.row.set j x
  have hg := h.row.block g rfl
  exact ⟨h1, fun a M e => (h.sp a M e).grown P (Nat.le_refl _) h2 (fun z hz => by injection hz with hz; subst hz; exact ⟨by simp [Value.ownBlock], hg.1⟩) (fun k hk => .inl hk), Only.lower h.top (Only.of_grown h2) (fun b hb => by rw [List.mem_singleton.1 hb]; exact hg.1) h.top.size⟩
end Go.Proofs.Yteoekfmjlmpmgaa
