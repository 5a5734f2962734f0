/-
  All orders of up to 4 points.
-/
import Derived.Test.YtnmgoeklcmoalaaOJ
namespace Go.Proofs.Ytnmgoeklcmoalaa
open Go.RowKit

def ords1 : List (List Int) := [[1]]
def ords2 : List (List Int) := [[1, 2], [1, 3], [3, 2]]
def ords3 : List (List Int) := [[1, 2, 4], [1, 2, 5], [1, 2, 6], [1, 2, 7], [1, 3, 4], [1, 3, 5], [1, 3, 7], [1, 6, 4], [1, 7, 4], [1, 7, 5], [3, 2, 4], [3, 2, 6], [3, 2, 7], [5, 2, 4], [5, 6, 4], [5, 7, 4], [7, 2, 4], [7, 2, 6], [7, 6, 4]]
def ords4 : List (List Int) := [[1, 2, 4, 8], [1, 2, 4, 9], [1, 2, 4, 10], [1, 2, 4, 11], [1, 2, 4, 12], [1, 2, 4, 13], [1, 2, 4, 14], [1, 2, 4, 15], [1, 2, 5, 8], [1, 2, 5, 9], [1, 2, 5, 10], [1, 2, 5, 11], [1, 2, 5, 13], [1, 2, 5, 15], [1, 2, 6, 8], [1, 2, 6, 9], [1, 2, 6, 10], [1, 2, 6, 11], [1, 2, 6, 14], [1, 2, 6, 15], [1, 2, 7, 8], [1, 2, 7, 9], [1, 2, 7, 10], [1, 2, 7, 11], [1, 2, 7, 15], [1, 2, 12, 8], [1, 2, 13, 8], [1, 2, 13, 9], [1, 2, 14, 8], [1, 2, 14, 10], [1, 2, 15, 8], [1, 2, 15, 9], [1, 2, 15, 10], [1, 2, 15, 11], [1, 3, 4, 8], [1, 3, 4, 9], [1, 3, 4, 11], [1, 3, 4, 12], [1, 3, 4, 13], [1, 3, 4, 15], [1, 3, 5, 8], [1, 3, 5, 9], [1, 3, 5, 11], [1, 3, 5, 13], [1, 3, 5, 15], [1, 3, 7, 8], [1, 3, 7, 9], [1, 3, 7, 11], [1, 3, 7, 15], [1, 3, 12, 8], [1, 3, 13, 8], [1, 3, 13, 9], [1, 3, 15, 8], [1, 3, 15, 9], [1, 3, 15, 11], [1, 6, 4, 8], [1, 6, 4, 9], [1, 6, 4, 12], [1, 6, 4, 13], [1, 6, 4, 14], [1, 6, 4, 15], [1, 7, 4, 8], [1, 7, 4, 9], [1, 7, 4, 12], [1, 7, 4, 13], [1, 7, 4, 15], [1, 7, 5, 8], [1, 7, 5, 9], [1, 7, 5, 13], [1, 7, 5, 15], [1, 10, 4, 8], [1, 10, 5, 8], [1, 10, 12, 8], [1, 10, 13, 8], [1, 10, 14, 8], [1, 10, 15, 8], [1, 11, 4, 8], [1, 11, 4, 9], [1, 11, 5, 8], [1, 11, 5, 9], [1, 11, 12, 8], [1, 11, 13, 8], [1, 11, 13, 9], [1, 11, 15, 8], [1, 11, 15, 9], [1, 14, 4, 8], [1, 14, 4, 12], [1, 14, 12, 8], [1, 15, 4, 8], [1, 15, 4, 9], [1, 15, 4, 12], [1, 15, 4, 13], [1, 15, 5, 8], [1, 15, 5, 9], [1, 15, 5, 13], [1, 15, 12, 8], [1, 15, 13, 8], [1, 15, 13, 9], [3, 2, 4, 8], [3, 2, 4, 10], [3, 2, 4, 11], [3, 2, 4, 12], [3, 2, 4, 14], [3, 2, 4, 15], [3, 2, 6, 8], [3, 2, 6, 10], [3, 2, 6, 11], [3, 2, 6, 14], [3, 2, 6, 15], [3, 2, 7, 8], [3, 2, 7, 10], [3, 2, 7, 11], [3, 2, 7, 15], [3, 2, 12, 8], [3, 2, 14, 8], [3, 2, 14, 10], [3, 2, 15, 8], [3, 2, 15, 10], [3, 2, 15, 11], [5, 2, 4, 8], [5, 2, 4, 10], [5, 2, 4, 12], [5, 2, 4, 13], [5, 2, 4, 14], [5, 2, 4, 15], [5, 6, 4, 8], [5, 6, 4, 12], [5, 6, 4, 13], [5, 6, 4, 14], [5, 6, 4, 15], [5, 7, 4, 8], [5, 7, 4, 12], [5, 7, 4, 13], [5, 7, 4, 15], [5, 10, 4, 8], [5, 14, 4, 8], [5, 14, 4, 12], [5, 15, 4, 8], [5, 15, 4, 12], [5, 15, 4, 13], [7, 2, 4, 8], [7, 2, 4, 10], [7, 2, 4, 12], [7, 2, 4, 14], [7, 2, 4, 15], [7, 2, 6, 8], [7, 2, 6, 10], [7, 2, 6, 14], [7, 2, 6, 15], [7, 6, 4, 8], [7, 6, 4, 12], [7, 6, 4, 14], [7, 6, 4, 15], [9, 2, 4, 8], [9, 2, 6, 8], [9, 2, 12, 8], [9, 2, 13, 8], [9, 2, 14, 8], [9, 2, 15, 8], [9, 6, 4, 8], [9, 10, 4, 8], [9, 10, 12, 8], [9, 10, 13, 8], [9, 10, 14, 8], [9, 10, 15, 8], [9, 11, 4, 8], [9, 11, 12, 8], [9, 11, 13, 8], [9, 11, 15, 8], [9, 14, 4, 8], [9, 14, 12, 8], [9, 15, 4, 8], [9, 15, 12, 8], [9, 15, 13, 8], [11, 2, 4, 8], [11, 2, 4, 10], [11, 2, 6, 8], [11, 2, 6, 10], [11, 2, 12, 8], [11, 2, 14, 8], [11, 2, 14, 10], [11, 2, 15, 8], [11, 2, 15, 10], [11, 10, 4, 8], [11, 10, 12, 8], [11, 10, 14, 8], [11, 10, 15, 8], [13, 2, 4, 8], [13, 2, 4, 12], [13, 2, 12, 8], [13, 6, 4, 8], [13, 6, 4, 12], [13, 10, 4, 8], [13, 10, 12, 8], [13, 14, 4, 8], [13, 14, 4, 12], [13, 14, 12, 8], [13, 15, 4, 8], [13, 15, 4, 12], [13, 15, 12, 8], [15, 2, 4, 8], [15, 2, 4, 10], [15, 2, 4, 12], [15, 2, 4, 14], [15, 2, 6, 8], [15, 2, 6, 10], [15, 2, 6, 14], [15, 2, 12, 8], [15, 2, 14, 8], [15, 2, 14, 10], [15, 6, 4, 8], [15, 6, 4, 12], [15, 6, 4, 14], [15, 10, 4, 8], [15, 10, 12, 8], [15, 10, 14, 8], [15, 14, 4, 8], [15, 14, 4, 12], [15, 14, 12, 8]]
def ords : List (List Int) := ords1 ++ (ords2 ++ (ords3 ++ ords4))
theorem oenum1 : ∀ a : Fin 2, hasB (a.val : Int) 0 = true → kindT [(a.val : Int)] = true → [(a.val : Int)] ∈ ords1 := by decide +kernel
theorem oenum2 : ∀ a : Fin 4, hasB (a.val : Int) 0 = true → ∀ b : Fin 4, hasB (b.val : Int) 1 = true → (hasB (a.val : Int) 1 && hasB (b.val : Int) 0) = false → kindT [(a.val : Int), (b.val : Int)] = true → [(a.val : Int), (b.val : Int)] ∈ ords2 := by decide +kernel
theorem oenum3 : ∀ a : Fin 8, hasB (a.val : Int) 0 = true → ∀ b : Fin 8, hasB (b.val : Int) 1 = true → (hasB (a.val : Int) 1 && hasB (b.val : Int) 0) = false → ∀ c : Fin 8, hasB (c.val : Int) 2 = true → (hasB (a.val : Int) 2 && hasB (c.val : Int) 0) = false → (hasB (b.val : Int) 2 && hasB (c.val : Int) 1) = false → kindT [(a.val : Int), (b.val : Int), (c.val : Int)] = true → [(a.val : Int), (b.val : Int), (c.val : Int)] ∈ ords3 := by decide +kernel
theorem oenum4 : ∀ a : Fin 16, hasB (a.val : Int) 0 = true → ∀ b : Fin 16, hasB (b.val : Int) 1 = true → (hasB (a.val : Int) 1 && hasB (b.val : Int) 0) = false → ∀ c : Fin 16, hasB (c.val : Int) 2 = true → (hasB (a.val : Int) 2 && hasB (c.val : Int) 0) = false → (hasB (b.val : Int) 2 && hasB (c.val : Int) 1) = false → ∀ d : Fin 16, hasB (d.val : Int) 3 = true → (hasB (a.val : Int) 3 && hasB (d.val : Int) 0) = false → (hasB (b.val : Int) 3 && hasB (d.val : Int) 1) = false → (hasB (c.val : Int) 3 && hasB (d.val : Int) 2) = false → kindT [(a.val : Int), (b.val : Int), (c.val : Int), (d.val : Int)] = true → [(a.val : Int), (b.val : Int), (c.val : Int), (d.val : Int)] ∈ ords4 := by decide +kernel
theorem ord_enum {xs : List Int} (h : ordB xs = true) : xs ∈ ords := by
  obtain ⟨hr, ha, hT⟩ := ord_facts h
  have R := ord_rl h
  have h1 := R.one
  have h4 := R.four
  have row : ∀ i, ∃ y : Nat, rowAt xs i = (y : Int) ∧ y < 2 ^ xs.length := fun i => by
    obtain ⟨y, hy, hy2⟩ := R.row i
    exact ⟨y.val, hy, hy2⟩
  clear R h
  unfold ords
  rw [List.mem_append, List.mem_append, List.mem_append]
  match xs, h1, h4 with
  | [x0], _, _ =>
    obtain ⟨a, ha', ha2⟩ := row 0
    have ha' : x0 = (a : Int) := ha'
    subst ha'
    exact .inl (oenum1 ⟨a, ha2⟩ (hr 0 (by simp)) hT)
  | [x0, x1], _, _ =>
    obtain ⟨a, ha', ha2⟩ := row 0
    obtain ⟨b, hb', hb2⟩ := row 1
    have ha' : x0 = (a : Int) := ha'
    have hb' : x1 = (b : Int) := hb'
    subst ha' hb'
    exact .inr (.inl (oenum2 ⟨a, ha2⟩ (hr 0 (by simp)) ⟨b, hb2⟩ (hr 1 (by simp)) (ha 0 1 (by simp) (by simp) (by decide)) hT))
  | [x0, x1, x2], _, _ =>
    obtain ⟨a, ha', ha2⟩ := row 0
    obtain ⟨b, hb', hb2⟩ := row 1
    obtain ⟨c, hc', hc2⟩ := row 2
    have ha' : x0 = (a : Int) := ha'
    have hb' : x1 = (b : Int) := hb'
    have hc' : x2 = (c : Int) := hc'
    subst ha' hb' hc'
    exact .inr (.inr (.inl (oenum3 ⟨a, ha2⟩ (hr 0 (by simp)) ⟨b, hb2⟩ (hr 1 (by simp)) (ha 0 1 (by simp) (by simp) (by decide)) ⟨c, hc2⟩ (hr 2 (by simp)) (ha 0 2 (by simp) (by simp) (by decide)) (ha 1 2 (by simp) (by simp) (by decide)) hT)))
  | [x0, x1, x2, x3], _, _ =>
    obtain ⟨a, ha', ha2⟩ := row 0
    obtain ⟨b, hb', hb2⟩ := row 1
    obtain ⟨c, hc', hc2⟩ := row 2
    obtain ⟨d, hd', hd2⟩ := row 3
    have ha' : x0 = (a : Int) := ha'
    have hb' : x1 = (b : Int) := hb'
    have hc' : x2 = (c : Int) := hc'
    have hd' : x3 = (d : Int) := hd'
    subst ha' hb' hc' hd'
    exact .inr (.inr (.inr (oenum4 ⟨a, ha2⟩ (hr 0 (by simp)) ⟨b, hb2⟩ (hr 1 (by simp)) (ha 0 1 (by simp) (by simp) (by decide)) ⟨c, hc2⟩ (hr 2 (by simp)) (ha 0 2 (by simp) (by simp) (by decide)) (ha 1 2 (by simp) (by simp) (by decide)) ⟨d, hd2⟩ (hr 3 (by simp)) (ha 0 3 (by simp) (by simp) (by decide)) (ha 1 3 (by simp) (by simp) (by decide)) (ha 2 3 (by simp) (by simp) (by decide)) hT)))
  | _ :: _ :: _ :: _ :: _ :: _, _, h => exact absurd h (by simp)
end Go.Proofs.Ytnmgoeklcmoalaa
