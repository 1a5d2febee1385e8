/- The document's own space: Drop, Back, Turn, Are. No statement is proved here. -/
import Derived.Test.YteoekfmjlmpmgaaHRef
namespace Go.Proofs.Yteoekfmjlmpmgaa
open Go.RowKit
set_option maxRecDepth 100000

theorem rdrop_any (B : Nat) (F : List Nat) (a : Nat) (L : List Int) (n : Int) (hn : okInt n) (w : World) (h : RSp B w F a L) :
    Calls Try.prog 29 #[.pointer (some ⟨a, 0, none⟩), .int .i64 n] w (SpTo (RSp B) w F a (setL L n 2) (.int .i64 (setE L n))) := by
  have HC := Lib.hid (rset_any B F a L n 2 hn (.inr (.inr rfl)) w h)
  clear h
  go_enter Try.func29, Try.ntmps29
  go_wp2_with fail
  refine HC.out.mono ?_
  rintro e w' ⟨rfl, h1, h2⟩
  have H := Lib.hid (And.intro h1 h2)
  clear h1 h2
  go_wp2_with fail
  go_ret
  exact ⟨rfl, H.out⟩
theorem rback_any (B : Nat) (F : List Nat) (a : Nat) (L : List Int) (n : Int) (hn : okInt n) (w : World) (h : RSp B w F a L) :
    Calls Try.prog 30 #[.pointer (some ⟨a, 0, none⟩), .int .i64 n] w (SpTo (RSp B) w F a (setL L n 0) (.int .i64 (setE L n))) := by
  have HC := Lib.hid (rset_any B F a L n 0 hn (.inl rfl) w h)
  clear h
  go_enter Try.func30, Try.ntmps30
  go_wp2_with fail
  refine HC.out.mono ?_
  rintro e w' ⟨rfl, h1, h2⟩
  have H := Lib.hid (And.intro h1 h2)
  clear h1 h2
  go_wp2_with fail
  go_ret
  exact ⟨rfl, H.out⟩
/-- Turned so far. -/
def turnK (L : List Int) (k : Nat) : List Int := turnL (L.take k) ++ L.drop k
theorem turnK_zero (L : List Int) : turnK L 0 = L := by simp [turnK, turnL]
theorem turnK_all (L : List Int) : turnK L L.length = turnL L := by simp [turnK]
theorem turnK_get {L : List Int} {k : Nat} {x : Int} (h : L[k]? = some x) : (turnK L k)[k]? = some x := by
  have hk := lt_of_get h
  have hl : (turnL (L.take k)).length = k := by rw [turnL_len, List.length_take]; omega
  unfold turnK
  rw [List.getElem?_append_right (by omega), hl, Nat.sub_self, List.getElem?_drop]
  simpa using h
theorem turnK_next {L : List Int} {k : Nat} {x : Int} (h : L[k]? = some x) : turnK L (k + 1) = turnL (L.take k) ++ (if x = 2 then 0 else x) :: L.drop (k + 1) := by
  unfold turnK turnL
  rw [List.take_add_one, h]
  simp
theorem turnK_as {L : List Int} {k : Nat} {x : Int} (h : L[k]? = some x) : turnK L k = turnL (L.take k) ++ x :: L.drop (k + 1) := by
  have hk := lt_of_get h
  unfold turnK
  rw [List.drop_eq_getElem_cons hk]
  obtain ⟨_, e⟩ := List.getElem?_eq_some_iff.1 h
  rw [e]
theorem turnK_set {L : List Int} {k : Nat} (h : L[k]? = some 2) : (turnK L k).set k 0 = turnK L (k + 1) := by
  have hk := lt_of_get h
  have hl : (turnL (L.take k)).length = k := by rw [turnL_len, List.length_take]; omega
  rw [turnK_next h, turnK_as h, List.set_append_right _ _ (by omega), hl, Nat.sub_self]
  rfl
theorem turnK_same {L : List Int} {k : Nat} {x : Int} (h : L[k]? = some x) (hx : x ≠ 2) : turnK L (k + 1) = turnK L k := by
  rw [turnK_next h, turnK_as h, if_neg hx]
theorem many_snoc (x y : Int) : ∀ l : List Int, manyOf x (l ++ [y]) = manyOf x l + (if y = x then 1 else 0)
  | [] => by simp [manyOf]
  | z :: l => by
    rw [List.cons_append, manyOf, manyOf, many_snoc x y l]
    omega
theorem many_next {L : List Int} {k : Nat} {x : Int} (h : L[k]? = some x) (y : Int) : manyOf y (L.take (k + 1)) = manyOf y (L.take k) + (if x = y then 1 else 0) := by
  rw [List.take_add_one, h, Option.toList_some, many_snoc]
set_option maxHeartbeats 4000000 in
theorem rturn_any (B : Nat) (F : List Nat) (a : Nat) (L : List Int) (w : World) (h : RSp B w F a L) :
    Calls Try.prog 31 #[.pointer (some ⟨a, 0, none⟩)] w (SpTo (RSp B) w F a (turnL L) (.int .i64 (manyOf 2 L))) := by
  have HS := Lib.hid h
  obtain ⟨g, c, rfl, -, -, -, -, -, hl1, hl2⟩ := h
  generalize hn : L.length = n at *
  go_enter Try.func31, Try.ntmps31
  go_wp2_with fail
  go_loopw [3, 4] (fun q i wr => ∃ k : Nat, k ≤ n ∧ i = .int .i64 (k : Int) ∧ q = .int .i64 (manyOf 2 (L.take k) : Nat) ∧ Hid (Only [a, g] w wr ∧ RSp B wr [a, g] a (turnK L k))) (fun _ i _ => n - (intOf i).toNat)
  case atStart => exact ⟨0, Nat.zero_le _, rfl, rfl, Lib.hid ⟨Only.refl _ _, by rw [turnK_zero]; exact HS.out⟩⟩
  case round =>
    obtain ⟨k, hk, rfl, rfl, HR⟩ := hrel
    obtain ⟨ho, g', c', e, hne, hB, hbox, hrow, h3, h4, h5⟩ := HR.out
    have e : g = g' := by injection e with _ e; injection e
    subst e
    have hlen : (turnK L k).length = n := by unfold turnK; rw [List.length_append, turnL_len, List.length_take, List.length_drop]; omega
    have c0 := row_cells hbox 0
    rw [hlen] at c0
    have hmk : manyOf 2 (L.take k) ≤ k := by have h6 := many_le 2 (L.take k); rw [List.length_take] at h6; omega
    by_cases hlt : k < n
    · obtain ⟨x, hx⟩ : ∃ x, L[k]? = some x := ⟨_, List.getElem?_eq_getElem (by omega)⟩
      obtain ⟨ck, fk⟩ := hrow.at_ (turnK_get hx)
      have hm := many_next hx 2
      by_cases h2 : x = 2
      · subst h2
        have hset := RSp.set hne hB hbox hrow h3 ⟨h4, h5⟩ k (x := 0) (.inl rfl)
        rw [turnK_set hx] at hset
        have H2 := Lib.hid (And.intro (ho.trans hset.1) hset.2)
        clear hset hbox hrow h3 h4 h5 ho hx
        rw [if_pos rfl] at hm
        go_wp2_with fail
        go_roundw
        case rel => exact ⟨k + 1, by omega, by go_num, by rw [hm]; go_num, H2⟩
        case measure => simp [intOf]; omega
      · have H2 := Lib.hid (turnK_same hx h2)
        clear hbox hrow h3 h4 h5 ho hx
        rw [if_neg h2] at hm
        go_wp2_with fail
        go_roundw
        case rel => exact ⟨k + 1, by omega, by go_num, by rw [hm]; go_num, by rw [H2.out]; exact HR⟩
        case measure => simp [intOf]; omega
    · have hkn : k = n := by omega
      subst hkn
      clear hbox hrow h3 h4 h5 ho
      have ht : L.take k = L := List.take_of_length_le (by omega)
      have hall := turnK_all L
      rw [hn] at hall
      go_wp2_with fail
      go_ret
      have h7 := HR.out
      rw [hall] at h7
      exact ⟨rfl, h7.1, _, h7.2, fun b hb => .inl hb⟩
theorem are_snoc (x y : Int) : ∀ (m : Nat) (l : List Int), areFrom x m (l ++ [y]) = areFrom x m l ++ (if y = x then [((m + l.length : Nat) : Int)] else [])
  | m, [] => by simp [areFrom]
  | m, z :: l => by
    rw [List.cons_append, areFrom, areFrom, are_snoc x y (m + 1) l]
    have e : m + 1 + l.length = m + (z :: l).length := by rw [List.length_cons]; omega
    rw [e]
    by_cases hz : z = x
    · rw [if_pos hz, if_pos hz, List.cons_append]
    · rw [if_neg hz, if_neg hz]
theorem are_next {L : List Int} {k : Nat} {y : Int} (h : L[k]? = some y) (x : Int) : areL (L.take (k + 1)) x = areL (L.take k) x ++ (if y = x then [(k : Int)] else []) := by
  have hk := lt_of_get h
  unfold areL
  rw [List.take_add_one, h, Option.toList_some, are_snoc, List.length_take, Nat.min_eq_left (by omega), Nat.zero_add]
set_option maxHeartbeats 4000000 in
theorem rare_any (B : Nat) (F : List Nat) (a : Nat) (L : List Int) (y : Int) (hy : okInt y) (w : World) (h : RSp B w F a L) :
    Calls Try.prog 32 #[.pointer (some ⟨a, 0, none⟩), .int .i64 y] w fun e w' => ∃ v, e = .returned v ∧ OwnI w' w.heap.size v (areL L y) ∧ Below w.heap.size w w' := by
  obtain ⟨g, c, rfl, hne, hB, hbox, hrow, h3, hl1, hl2⟩ := h
  have H := Lib.hid (And.intro hbox hrow)
  clear hne hB hbox hrow h3
  generalize hn : L.length = n at *
  go_enter Try.func32, Try.ntmps32
  go_wp2_with fail
  go_loopw [5, 6] (fun v i wr => ∃ k : Nat, k ≤ n ∧ i = .int .i64 (k : Int) ∧ Hid (OwnI wr w.heap.size v (areL (L.take k) y) ∧ Below w.heap.size w wr)) (fun _ i _ => n - (intOf i).toNat)
  case atStart => exact ⟨0, Nat.zero_le _, rfl, Lib.hid ⟨OwnI.nil _ _, Below.refl _ _⟩⟩
  case round =>
    obtain ⟨k, hk, rfl, HR⟩ := hrel
    have c0 := row_cells (row_then H.out.1 HR.out.2) 0
    by_cases hlt : k < n
    · obtain ⟨x, hx⟩ : ∃ x, L[k]? = some x := ⟨_, List.getElem?_eq_getElem (by omega)⟩
      obtain ⟨ck, -⟩ := (H.out.2.then_ HR.out.2).at_ hx
      have hm := are_next hx y
      have hlen : (areL (L.take k) y).length ≤ k := by
        have h6 := many_le y (L.take k)
        rw [List.length_take] at h6
        rw [areL_len]; omega
      by_cases h2 : x = y
      · rw [if_pos h2] at hm
        clear hx
        go_wp2_with (first
          | (at_builtin; refine apIL _ rfl (.tmp 25) (.tmp 27) rfl w.heap.size _ _ rfl HR.out.1 [(k : Int)] _ 1 1 rfl rfl rfl rfl (by omega) HR.out.2.size ?_; intro v' w8 hg; have G8 := Lib.hid (And.intro hg.own (hg.below HR.out.1 HR.out.2 (Nat.le_refl _) HR.out.2.size)); clear hg))
        go_roundw
        case rel => exact ⟨k + 1, by omega, by go_num, by rw [hm]; exact G8⟩
        case measure => simp [intOf]; omega
      · rw [if_neg h2, List.append_nil] at hm
        clear hx
        go_wp2_with fail
        go_roundw
        case rel => exact ⟨k + 1, by omega, by go_num, by rw [hm]; exact HR⟩
        case measure => simp [intOf]; omega
    · have hkn : k = n := by omega
      subst hkn
      have ht : L.take k = L := List.take_of_length_le (by omega)
      rw [ht] at HR
      go_wp2_with fail
      go_ret
      exact ⟨_, rfl, HR.out⟩
end Go.Proofs.Yteoekfmjlmpmgaa
