/- Pages on a disk, as plain words: no program here. No statement is proved here. -/
import Derived.Test.YtlpnhfceblbllaaDoorJ3
import Derived.Test.YtlpnhfceblbllaaDoorGOpen
namespace Go.Proofs.YtlpnhfceblbllaaDoor
/-- A page's sector. -/
def rowK (b : List Int) (i : Nat) : List Int := (b.drop (512 * i)).take 512
/-- n sectors from the i-th on, written one behind another till one is refused: the error, the disk. -/
def wrs (number : Int) (b : List Int) : Nat → Nat → Dk → Int × Dk
  | 0, _, d => (0, d)
  | n + 1, i, d => if d.writeE (number * 8 + i) (rowK b i) = 0 then wrs number b n (i + 1) (d.write (number * 8 + i) (rowK b i)) else (d.writeE (number * 8 + i) (rowK b i), d.write (number * 8 + i) (rowK b i))
def Dk.pages (d : Dk) : Int := (d.many : Int) / 8
/-- A page written: the error, the disk. -/
def Dk.pwr (d : Dk) (number kind : Int) (l : List Int) : Int × Dk := if makeE number kind l.length = 0 then if number < d.pages then wrs number (pageL number kind l) 8 0 d else (1, d) else (makeE number kind l.length, d)
theorem rowK_len {b : List Int} (h : b.length = 4096) {i : Nat} (hi : i < 8) : (rowK b i).length = 512 := by
  unfold rowK
  rw [List.length_take, List.length_drop]
  omega
theorem wrs_ok (number : Int) (b : List Int) : ∀ (n i : Nat) (d : Dk), d.ok → (wrs number b n i d).2.ok
  | 0, _, _, h => h
  | n + 1, i, d, h => by
    unfold wrs
    split
    · exact wrs_ok number b n (i + 1) _ (Dk.write_ok h _ _)
    · exact Dk.write_ok h _ _
theorem wrs_good {number : Int} {b : List Int} {n i : Nat} {d : Dk} (h : d.writeE (number * 8 + i) (rowK b i) = 0) : wrs number b (n + 1) i d = wrs number b n (i + 1) (d.write (number * 8 + i) (rowK b i)) := by rw [wrs, if_pos h]
theorem wrs_bad {number : Int} {b : List Int} {n i : Nat} {d : Dk} (h : d.writeE (number * 8 + i) (rowK b i) ≠ 0) : wrs number b (n + 1) i d = (d.writeE (number * 8 + i) (rowK b i), d.write (number * 8 + i) (rowK b i)) := by rw [wrs, if_neg h]
theorem okG_of {number kind : Int} {n : Nat} (h : makeE number kind n = 0) : okG number kind n = true := by
  cases hk : okG number kind n
  · unfold makeE at h
    rw [hk] at h
    exact absurd h (by decide)
  · rfl
theorem Dk.write_many (d : Dk) (at_ : Int) (l : List Int) : (d.write at_ l).many = d.many := by
  unfold Dk.write
  split
  · rfl
  · split
    · rfl
    · split
      · exact d.acted_many
      · exact d.acted_many
/-- The bytes of a page's first sectors; of the page. -/
def preB (d : Dk) (number : Nat) : Nat → List Int
  | 0 => []
  | k + 1 => preB d number k ++ d.look (number * 8 + k)
def pgB (d : Dk) (number : Nat) : List Int := preB d number 8
theorem preB_len {d : Dk} (h : d.ok) (number : Nat) : ∀ k, (preB d number k).length = 512 * k
  | 0 => rfl
  | k + 1 => by
    show (preB d number k ++ d.look (number * 8 + k)).length = _
    rw [List.length_append, preB_len h number k, h.look_len]
    omega
theorem pgB_len {d : Dk} (h : d.ok) (number : Nat) : (pgB d number).length = 4096 := preB_len h number 8
/-- A page read: the error, the kind, the body. -/
def Dk.prE (d : Dk) (number : Int) : Int := if 0 ≤ number ∧ number < d.pages then if d.down then 5 else openE (pgB d number.toNat) number else 1
def Dk.prK (d : Dk) (number : Int) : Int := if d.prE number = 0 then openK (pgB d number.toNat) number else 0
def Dk.prL (d : Dk) (number : Int) : List Int := if d.prE number = 0 then openL (pgB d number.toNat) number else []
end Go.Proofs.YtlpnhfceblbllaaDoor
