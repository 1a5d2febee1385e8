/- How many words a value has that was read: no more than its bulk allows. No statement is proved here. -/
import Derived.Test.YtgcbcmhdlgklgaaOpen
import Derived.Test.YtgcbcmhdlgklgaaRows
import Derived.Test.YtgcbcmhdlgklgaaWAllP
namespace Go.Proofs.Ytgcbcmhdlgklgaa
open Go.RowKit Go.ChangeShapes Go.WideShapes
set_option maxRecDepth 100000

theorem bulk_pos {H : Type} (d : DataW H) : 1 ≤ Rows.uptoBulk d := by
  cases d with
  | lit x => cases x <;> simp [Rows.uptoBulk]
  | _ => simp [Rows.uptoBulk]
theorem words_listB {H : Type} : ∀ (l : List T) (ds : List (DataW H)), ds.length = l.length → (∀ (i : Nat) (x : T) (d : DataW H), l[i]? = some x → ds[i]? = some d → (allW x.val).length ≤ 200 * Rows.uptoBulk d) → (allWL (l.map T.val)).length ≤ 200 * Rows.uptoBulkAll ds
  | [], _, _, _ => by simp [allWL]
  | x :: r, [], h, _ => by simp at h
  | x :: r, d :: e, h, k => by
    have h1 := k 0 x d rfl rfl
    have h2 := words_listB r e (by simpa using h) (fun i y z hy hz => k (i + 1) y z (by simpa using hy) (by simpa using hz))
    rw [List.map_cons, allWL, List.length_append, Rows.uptoBulkAll]
    omega
theorem words_docB {H : Type} : ∀ (l : List (ByteArray × T)) (ds : List (DataW H)), ds.length = l.length → (∀ (i : Nat) (x : ByteArray × T) (d : DataW H), l[i]? = some x → ds[i]? = some d → (allW x.2.val).length ≤ 200 * Rows.uptoBulk d) → (allWD (l.map fun f => (f.1, f.2.val))).length ≤ 200 * Rows.uptoBulkAll ds
  | [], _, _, _ => by simp [allWD]
  | x :: r, [], h, _ => by simp at h
  | x :: r, d :: e, h, k => by
    have h1 := k 0 x d rfl rfl
    have h2 := words_docB r e (by simpa using h) (fun i y z hy hz => k (i + 1) y z (by simpa using hy) (by simpa using hz))
    rw [List.map_cons, allWD, List.length_append, Rows.uptoBulkAll]
    omega
section
variable {H : Type} {enc : TypeId × Value → H} {W : World} {held : Bool}
theorem value_bulk (fuel : Nat) : ∀ (t : T) (x : DataW H × List MemPlace), t.In W → DataW.trod enc Try.prog W 0 (fun _ => true) held fuel 30 t.cells = some x → (allW t.val).length ≤ 200 * Rows.uptoBulk x.1 := by
  induction fuel using Nat.strongRecOn with
  | ind fuel ih =>
  intro t x hin h
  obtain ⟨k, m, s, la, lc, l, da, dc, d⟩ := t
  obtain ⟨inl, ind⟩ := hin.parts
  obtain ⟨xs, n, rfl, rfl, hlen, hxl, hf⟩ := DataW.trod_struct Try.underlying30 h
  dsimp only [T.cells] at hf hlen
  match xs, hxl with
  | [y0, y1, y2, y3, y4], _ =>
  have h3 : DataW.trod enc Try.prog W 0 (fun _ => true) held n 27 (([Value.int .i64 k, .int .i64 m, .string s, .slice la l.length lc, .slice da d.length dc].drop 3).take (Try.prog.cellsOf 27)) = some y3 := hf 3 _ rfl
  have h4 : DataW.trod enc Try.prog W 0 (fun _ => true) held n 28 (([Value.int .i64 k, .int .i64 m, .string s, .slice la l.length lc, .slice da d.length dc].drop 4).take (Try.prog.cellsOf 28)) = some y4 := hf 4 _ rfl
  rw [cells_list] at h3
  rw [cells_doc] at h4
  have hL : (allWL (l.map T.val)).length ≤ 200 * Rows.uptoBulk y3.1 := by
    rcases DataW.trod_slice Try.underlying27 h3 with ⟨hc, -⟩ | ⟨a, len, cap, elems, rest, n2, rfl, hc, hx, -, hl, -, hel, hi, hsp, -⟩
    · simp at hc
      have e : l = [] := hc.2.1
      subst e
      simp [allWL]
    · simp at hc
      obtain ⟨ea, el, -⟩ := hc
      have e3 := congrArg Prod.fst hx
      simp only at e3
      rw [e3]
      have := words_listB l (elems.map (·.1)) (by rw [List.length_map]; omega) (fun i y z hy hz => by
        rw [List.getElem?_map, Option.map_eq_some_iff] at hz
        obtain ⟨ez, hez, rfl⟩ := hz
        have hil := lt_of_get hy
        have e := hi i (by omega)
        rw [hez, Option.bind_eq_some_iff] at e
        obtain ⟨cs', hcs, ht⟩ := e
        rw [cells_value] at hcs
        obtain ⟨_, hcl, hat⟩ := World.cells?_some hcs
        obtain ⟨b, o, eb, hc, hiny⟩ := InL.elem inl hy
        rw [ea] at eb
        injection eb with eb
        have hcy : cs' = y.cells := by
          have hyl : y.cells.length = 5 := by cases y; rfl
          apply List.ext_getElem?
          intro j
          by_cases hj : j < 5
          · obtain ⟨c, hcj⟩ : ∃ c, y.cells[j]? = some c := ⟨_, List.getElem?_eq_getElem (by omega)⟩
            have h1 := hat j hj
            rw [eb, add_plain (a := ⟨b, o, none⟩) rfl, add_plain rfl] at h1
            rw [hcj, ← h1]
            exact hc j c hcj
          · rw [List.getElem?_eq_none (by omega), List.getElem?_eq_none (by omega)]
        subst hcy
        exact ih n2 (by omega) y ez hiny ht)
      simp only [Rows.uptoBulk]
      omega
  have hD : (allWD (d.map fun f => (f.1, f.2.val))).length ≤ 200 * Rows.uptoBulk y4.1 := by
    rcases DataW.trod_slice Try.underlying28 h4 with ⟨hc, -⟩ | ⟨a, len, cap, elems, rest, n2, rfl, hc, hx, -, hl, -, hel, hi, hsp, -⟩
    · simp at hc
      have e : d = [] := hc.2.1
      subst e
      simp [allWD]
    · simp at hc
      obtain ⟨ea, el, -⟩ := hc
      have e3 := congrArg Prod.fst hx
      simp only at e3
      rw [e3]
      have := words_docB d (elems.map (·.1)) (by rw [List.length_map]; omega) (fun i y z hy hz => by
        rw [List.getElem?_map, Option.map_eq_some_iff] at hz
        obtain ⟨ez, hez, rfl⟩ := hz
        have hil := lt_of_get hy
        have e := hi i (by omega)
        rw [hez, Option.bind_eq_some_iff] at e
        obtain ⟨cs', hcs, ht⟩ := e
        rw [cells_field] at hcs
        obtain ⟨_, hcl, hat⟩ := World.cells?_some hcs
        obtain ⟨b, o, eb, hc, hiny⟩ := InD.elem ind hy
        rw [ea] at eb
        injection eb with eb
        have hcy : cs' = fcells y := by
          have hyl : (fcells y).length = 6 := by obtain ⟨f, y⟩ := y; cases y; rfl
          apply List.ext_getElem?
          intro j
          by_cases hj : j < 6
          · obtain ⟨c, hcj⟩ : ∃ c, (fcells y)[j]? = some c := ⟨_, List.getElem?_eq_getElem (by omega)⟩
            have h1 := hat j hj
            rw [eb, add_plain (a := ⟨b, o, none⟩) rfl, add_plain rfl] at h1
            rw [hcj, ← h1]
            exact hc j c hcj
          · rw [List.getElem?_eq_none (by omega), List.getElem?_eq_none (by omega)]
        subst hcy
        obtain ⟨zs, n3, rfl, rfl, hzl, hzn, hzf⟩ := DataW.trod_struct Try.underlying52 ht
        match zs, hzn with
        | [z0, z1], _ =>
        have g1 : DataW.trod enc Try.prog W 0 (fun _ => true) held n3 30 (((fcells y).drop 1).take (Try.prog.cellsOf 30)) = some z1 := hzf 1 _ rfl
        rw [cells_value] at g1
        have ey : ((fcells y).drop 1).take 5 = y.2.cells := by obtain ⟨f, y⟩ := y; cases y; rfl
        rw [ey] at g1
        have := ih n3 (by omega) y.2 z1 hiny g1
        simp only [Rows.uptoBulk, Rows.uptoBulkAll, List.map_cons, List.map_nil]
        omega)
      simp only [Rows.uptoBulk]
      omega
  rw [T.val_mk, allW]
  simp only [Rows.uptoBulk, Rows.uptoBulkAll, List.map_cons, List.map_nil]
  split
  · have := splitL_len (bsI s)
    omega
  split
  · omega
  split
  · omega
  · simp
end
end Go.Proofs.Ytgcbcmhdlgklgaa
