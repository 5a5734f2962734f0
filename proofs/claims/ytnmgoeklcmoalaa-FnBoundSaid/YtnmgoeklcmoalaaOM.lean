/-
  The ways of an order: how they are found, one by one; all orders of up to 4 points have some, and 24 at most.
-/
import Derived.Test.YtnmgoeklcmoalaaOJ
namespace Go.Proofs.Ytnmgoeklcmoalaa
open Go.RowKit

/-- whether a point may come next -/
def freeB (bk : List Int) (u : Int) (v : Nat) : Bool := !hasB u v && partB (rowAt bk v) u
/-- the ways that begin with some points, m points being left -/
def goL (n : Nat) (bk : List Int) : Nat → List Int → Int → List (List Int)
  | 0, b, _ => [b]
  | m + 1, b, u => (List.range n).flatMap fun v => if freeB bk u v then goL n bk m (b ++ [(v : Int)]) (bits .or .i64 u (pt v)) else []
/-- those whose next point is among the first k -/
def goTo (n : Nat) (bk : List Int) (m : Nat) (b : List Int) (u : Int) (k : Nat) : List (List Int) :=
  (List.range k).flatMap fun v => if freeB bk u v then goL n bk m (b ++ [(v : Int)]) (bits .or .i64 u (pt v)) else []
theorem goTo_succ (n : Nat) (bk : List Int) (m : Nat) (b : List Int) (u : Int) (k : Nat) :
    goTo n bk m b u (k + 1) = goTo n bk m b u k ++ (if freeB bk u k then goL n bk m (b ++ [(k : Int)]) (bits .or .i64 u (pt k)) else []) := by
  unfold goTo
  rw [List.range_succ, List.flatMap_append]
  simp
theorem goTo_all (n : Nat) (bk : List Int) (m : Nat) (b : List Int) (u : Int) : goTo n bk m b u n = goL n bk (m + 1) b u := rfl
theorem goTo_split (n : Nat) (bk : List Int) (m : Nat) (b : List Int) (u : Int) (k : Nat) (hk : k < n) : ∃ rest, goL n bk (m + 1) b u = goTo n bk m b u (k + 1) ++ rest := by
  refine ⟨((List.range n).drop (k + 1)).flatMap fun v => if freeB bk u v then goL n bk m (b ++ [(v : Int)]) (bits .or .i64 u (pt v)) else [], ?_⟩
  have h : List.range n = List.range (k + 1) ++ (List.range n).drop (k + 1) := by
    have := (List.take_append_drop (k + 1) (List.range n)).symm
    rw [List.take_range, Nat.min_eq_left (by omega)] at this
    exact this
  show (List.range n).flatMap _ = _
  rw [h, List.flatMap_append]
  have hd : List.drop (k + 1) (List.range (k + 1) ++ List.drop (k + 1) (List.range n)) = List.drop (k + 1) (List.range n) := by
    rw [← h]
  rw [hd]
  rfl
theorem goL_len (n : Nat) (bk : List Int) : ∀ m b u, ∀ w ∈ goL n bk m b u, w.length = b.length + m
  | 0, b, u, w, h => by
    rw [show goL n bk 0 b u = [b] from rfl, List.mem_singleton] at h
    rw [h]
    rfl
  | m + 1, b, u, w, h => by
    rw [show goL n bk (m + 1) b u = (List.range n).flatMap fun v => if freeB bk u v then goL n bk m (b ++ [(v : Int)]) (bits .or .i64 u (pt v)) else [] from rfl, List.mem_flatMap] at h
    obtain ⟨v, _, hv⟩ := h
    cases hf : freeB bk u v with
    | false => rw [hf] at hv; simp at hv
    | true =>
      rw [hf, if_pos rfl] at hv
      have := goL_len n bk m _ _ w hv
      rw [this, List.length_append]
      simp
      omega
/-- the points that must stand ahead -/
def aheadL (xs : List Int) : List Int := turnL (offI xs)
theorem Rl.ahead {n : Nat} {xs : List Int} (h : Rl n xs) : Rl n (aheadL xs) := h.off.turn
def waysL (xs : List Int) : List (List Int) := goL xs.length (aheadL xs) xs.length [] 0

def wayB (xs : List Int) : Bool := decide (1 ≤ (waysL xs).length) && decide ((waysL xs).length ≤ 24)
theorem way1 : ∀ a : Fin 2, hasB (a.val : Int) 0 = true → wayB [(a.val : Int)] = true := by decide +kernel
theorem way2 : ∀ a : Fin 4, hasB (a.val : Int) 0 = true → ∀ b : Fin 4, hasB (b.val : Int) 1 = true → (hasB (a.val : Int) 1 && hasB (b.val : Int) 0) = false → wayB [(a.val : Int), (b.val : Int)] = true := by decide +kernel
theorem way3 : ∀ a : Fin 8, hasB (a.val : Int) 0 = true → ∀ b : Fin 8, hasB (b.val : Int) 1 = true → (hasB (a.val : Int) 1 && hasB (b.val : Int) 0) = false →
    ∀ c : Fin 8, hasB (c.val : Int) 2 = true → (hasB (a.val : Int) 2 && hasB (c.val : Int) 0) = false → (hasB (b.val : Int) 2 && hasB (c.val : Int) 1) = false →
    kindT [(a.val : Int), (b.val : Int), (c.val : Int)] = true → wayB [(a.val : Int), (b.val : Int), (c.val : Int)] = true := by decide +kernel
theorem way4 : ∀ a : Fin 16, hasB (a.val : Int) 0 = true → ∀ b : Fin 16, hasB (b.val : Int) 1 = true → (hasB (a.val : Int) 1 && hasB (b.val : Int) 0) = false →
    ∀ c : Fin 16, hasB (c.val : Int) 2 = true → (hasB (a.val : Int) 2 && hasB (c.val : Int) 0) = false → (hasB (b.val : Int) 2 && hasB (c.val : Int) 1) = false →
    ∀ d : Fin 16, hasB (d.val : Int) 3 = true → (hasB (a.val : Int) 3 && hasB (d.val : Int) 0) = false → (hasB (b.val : Int) 3 && hasB (d.val : Int) 1) = false → (hasB (c.val : Int) 3 && hasB (d.val : Int) 2) = false →
    kindT [(a.val : Int), (b.val : Int), (c.val : Int), (d.val : Int)] = true → wayB [(a.val : Int), (b.val : Int), (c.val : Int), (d.val : Int)] = true := by decide +kernel
theorem order_way {xs : List Int} (h : ordB xs = true) : wayB xs = true := by
  obtain ⟨hr, ha, hT⟩ := ord_facts h
  have R := ord_rl h
  have h1 := R.one
  have h4 := R.four
  have row : ∀ i, ∃ y : Nat, rowAt xs i = (y : Int) ∧ y < 2 ^ xs.length := fun i => by
    obtain ⟨y, hy, hy2⟩ := R.row i
    exact ⟨y.val, hy, hy2⟩
  clear R h
  match xs, h1, h4 with
  | [x0], _, _ =>
    obtain ⟨a, ha', ha2⟩ := row 0
    have ha' : x0 = (a : Int) := ha'
    subst ha'
    exact way1 ⟨a, ha2⟩ (hr 0 (by simp))
  | [x0, x1], _, _ =>
    obtain ⟨a, ha', ha2⟩ := row 0
    obtain ⟨b, hb', hb2⟩ := row 1
    have ha' : x0 = (a : Int) := ha'
    have hb' : x1 = (b : Int) := hb'
    subst ha' hb'
    exact way2 ⟨a, ha2⟩ (hr 0 (by simp)) ⟨b, hb2⟩ (hr 1 (by simp)) (ha 0 1 (by simp) (by simp) (by decide))
  | [x0, x1, x2], _, _ =>
    obtain ⟨a, ha', ha2⟩ := row 0
    obtain ⟨b, hb', hb2⟩ := row 1
    obtain ⟨c, hc', hc2⟩ := row 2
    have ha' : x0 = (a : Int) := ha'
    have hb' : x1 = (b : Int) := hb'
    have hc' : x2 = (c : Int) := hc'
    subst ha' hb' hc'
    exact way3 ⟨a, ha2⟩ (hr 0 (by simp)) ⟨b, hb2⟩ (hr 1 (by simp)) (ha 0 1 (by simp) (by simp) (by decide)) ⟨c, hc2⟩ (hr 2 (by simp)) (ha 0 2 (by simp) (by simp) (by decide)) (ha 1 2 (by simp) (by simp) (by decide)) hT
  | [x0, x1, x2, x3], _, _ =>
    obtain ⟨a, ha', ha2⟩ := row 0
    obtain ⟨b, hb', hb2⟩ := row 1
    obtain ⟨c, hc', hc2⟩ := row 2
    obtain ⟨d, hd', hd2⟩ := row 3
    have ha' : x0 = (a : Int) := ha'
    have hb' : x1 = (b : Int) := hb'
    have hc' : x2 = (c : Int) := hc'
    have hd' : x3 = (d : Int) := hd'
    subst ha' hb' hc' hd'
    exact way4 ⟨a, ha2⟩ (hr 0 (by simp)) ⟨b, hb2⟩ (hr 1 (by simp)) (ha 0 1 (by simp) (by simp) (by decide)) ⟨c, hc2⟩ (hr 2 (by simp)) (ha 0 2 (by simp) (by simp) (by decide)) (ha 1 2 (by simp) (by simp) (by decide)) ⟨d, hd2⟩ (hr 3 (by simp)) (ha 0 3 (by simp) (by simp) (by decide)) (ha 1 3 (by simp) (by simp) (by decide)) (ha 2 3 (by simp) (by simp) (by decide)) hT
  | _ :: _ :: _ :: _ :: _ :: _, _, h => exact absurd h (by simp)
theorem ways_some {xs : List Int} (h : ordB xs = true) : 1 ≤ (waysL xs).length ∧ (waysL xs).length ≤ 24 := by
  have hs := order_way h
  unfold wayB at hs
  rw [Bool.and_eq_true] at hs
  exact ⟨of_decide_eq_true hs.1, of_decide_eq_true hs.2⟩
theorem ways_len {xs : List Int} : ∀ w ∈ waysL xs, w.length = xs.length := fun w h => by
  have := goL_len _ _ _ _ _ w h
  simpa using this
end Go.Proofs.Ytnmgoeklcmoalaa
