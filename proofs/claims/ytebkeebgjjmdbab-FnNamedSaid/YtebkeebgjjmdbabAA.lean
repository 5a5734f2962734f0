/-
  Contracts of the program's isPoint and hasEachOnce; and that the model's way of asking whether a list has each point once comes to the same.
-/
import Derived.Test.YtebkeebgjjmdbabW
namespace Go.Proofs.Ytebkeebgjjmdbab
open Go.RowKit

/-- a point of n -/
def ptB (i : Int) (n : Nat) : Bool := decide (0 ≤ i ∧ i < n)

theorem isPoint_any (i : Int) (n : Nat) (w : World) :
    Calls Try.prog 28 #[.int .i64 i, .int .i64 n] w fun e w' => e = .returned (.bool (ptB i n)) ∧ w = w' := by
  unfold ptB
  go_enter Try.func28, Try.ntmps28
  by_cases h : 0 ≤ i
  · by_cases h2 : i < n
    · go_wp2
      go_ret
      exact ⟨by simp [h, h2], rfl⟩
    · go_wp2
      go_ret
      exact ⟨by simp [h2], rfl⟩
  · go_wp2
    go_ret
    exact ⟨by simp; omega, rfl⟩

/-- each point once, as the program asks it -/
def eachGo (n : Nat) : Int → List Int → Bool
  | _, [] => true
  | t, i :: r => ptB i n && !(hasB t i.toNat) && eachGo n (bits .or .i64 t (pt i.toNat)) r
def eachB (n : Nat) (ps : List Int) : Bool := decide (ps.length = n) && eachGo n 0 ps
/-- .. and as the model asks it -/
def seenGo (n : Nat) : Int → List Int → Option Int
  | s, [] => some s
  | s, i :: r => if ptB i n then seenGo n (bits .or .i64 s (pt i.toNat)) r else none
def seenB (n : Nat) (ps : List Int) : Bool := decide (ps.length = n) && (seenGo n 0 ps == some (2 ^ n - 1))

theorem eachGo_in (n : Nat) : ∀ (ps : List Int) (t : Int), eachGo n t ps = true → ∀ i ∈ ps, ptB i n = true := by
  intro ps
  induction ps with
  | nil => intro t _ i hi; cases hi
  | cons p r ih =>
    intro t h i hi
    simp only [eachGo, Bool.and_eq_true] at h
    rcases List.mem_cons.1 hi with rfl | hi
    · exact h.1.1
    · exact ih _ h.2 i hi
theorem seenGo_in (n : Nat) : ∀ (ps : List Int) (t s : Int), seenGo n t ps = some s → ∀ i ∈ ps, ptB i n = true := by
  intro ps
  induction ps with
  | nil => intro t s _ i hi; cases hi
  | cons p r ih =>
    intro t s h i hi
    unfold seenGo at h
    by_cases hp : ptB p n = true
    · rw [if_pos hp] at h
      rcases List.mem_cons.1 hi with rfl | hi
      · exact hp
      · exact ih _ _ h i hi
    · rw [if_neg hp] at h
      cases h

theorem each1 : ∀ a : Fin 1, eachB 1 [(a.val : Int)] = seenB 1 [(a.val : Int)] := by decide +kernel
theorem each2 : ∀ a b : Fin 2, eachB 2 [(a.val : Int), (b.val : Int)] = seenB 2 [(a.val : Int), (b.val : Int)] := by decide +kernel
theorem each3 : ∀ a b c : Fin 3, eachB 3 [(a.val : Int), (b.val : Int), (c.val : Int)] = seenB 3 [(a.val : Int), (b.val : Int), (c.val : Int)] := by decide +kernel
theorem each4 : ∀ a b c d : Fin 4, eachB 4 [(a.val : Int), (b.val : Int), (c.val : Int), (d.val : Int)] = seenB 4 [(a.val : Int), (b.val : Int), (c.val : Int), (d.val : Int)] := by decide +kernel

theorem ptB_fin {i : Int} {n : Nat} (h : ptB i n = true) : ∃ a : Fin n, i = (a.val : Int) := by
  have := of_decide_eq_true h
  exact ⟨⟨i.toNat, by omega⟩, by simp; omega⟩

theorem each_same (n : Nat) (h1 : 1 ≤ n) (h4 : n ≤ 4) (ps : List Int) : eachB n ps = seenB n ps := by
  by_cases hl : ps.length = n
  · by_cases hin : ∀ i ∈ ps, ptB i n = true
    · rcases (by omega : n = 1 ∨ n = 2 ∨ n = 3 ∨ n = 4) with rfl | rfl | rfl | rfl
      · match ps, hl with
        | [a], _ =>
          obtain ⟨a, rfl⟩ := ptB_fin (hin a (by simp))
          exact each1 a
      · match ps, hl with
        | [a, b], _ =>
          obtain ⟨a, rfl⟩ := ptB_fin (hin a (by simp))
          obtain ⟨b, rfl⟩ := ptB_fin (hin b (by simp))
          exact each2 a b
      · match ps, hl with
        | [a, b, c], _ =>
          obtain ⟨a, rfl⟩ := ptB_fin (hin a (by simp))
          obtain ⟨b, rfl⟩ := ptB_fin (hin b (by simp))
          obtain ⟨c, rfl⟩ := ptB_fin (hin c (by simp))
          exact each3 a b c
      · match ps, hl with
        | [a, b, c, d], _ =>
          obtain ⟨a, rfl⟩ := ptB_fin (hin a (by simp))
          obtain ⟨b, rfl⟩ := ptB_fin (hin b (by simp))
          obtain ⟨c, rfl⟩ := ptB_fin (hin c (by simp))
          obtain ⟨d, rfl⟩ := ptB_fin (hin d (by simp))
          exact each4 a b c d
    · have e1 : eachB n ps = false := by
        cases h : eachGo n 0 ps with
        | false => simp [eachB, h]
        | true => exact absurd (eachGo_in n ps 0 h) hin
      have e2 : seenB n ps = false := by
        cases h : seenGo n 0 ps with
        | none => simp [seenB, h]
        | some s => exact absurd (seenGo_in n ps 0 s h) hin
      rw [e1, e2]
  · simp [eachB, seenB, hl]

theorem eachB_in {n : Nat} {ps : List Int} (h : eachB n ps = true) : ps.length = n ∧ ∀ i ∈ ps, ptB i n = true := by
  unfold eachB at h
  rw [Bool.and_eq_true] at h
  exact ⟨of_decide_eq_true h.1, eachGo_in n ps 0 h.2⟩

/-- the number at a place, as a point -/
def pv (ps : List Int) (i : Nat) : Nat := (rowAt ps i).toNat
/-- pairs under other names, one by one -/
def namedAcc (n : Nat) (ps : List Int) (pre : List (Fin n × Fin n)) : List Int := pre.foldl (fun zs p => addPair zs (pv ps p.1.val) (pv ps p.2.val)) (List.replicate n 0)
theorem namedAcc_snoc (n : Nat) (ps : List Int) (pre : List (Fin n × Fin n)) (p : Fin n × Fin n) : namedAcc n ps (pre ++ [p]) = addPair (namedAcc n ps pre) (pv ps p.1.val) (pv ps p.2.val) := by
  unfold namedAcc
  rw [List.foldl_append]
  rfl
theorem namedAcc_len (n : Nat) (ps : List Int) (pre : List (Fin n × Fin n)) : (namedAcc n ps pre).length = n := by
  have h : ∀ (l : List (Fin n × Fin n)) (zs : List Int), (l.foldl (fun zs p => addPair zs (pv ps p.1.val) (pv ps p.2.val)) zs).length = zs.length := by
    intro l
    induction l with
    | nil => intro zs; rfl
    | cons p r ih => intro zs; rw [List.foldl_cons, ih, addPair_len]
  unfold namedAcc
  rw [h]
  simp
theorem pv_at {n : Nat} {ps : List Int} (h : eachB n ps = true) (i : Nat) (hi : i < n) : ps[i]? = some ((pv ps i : Nat) : Int) ∧ pv ps i < n := by
  obtain ⟨hl, hin⟩ := eachB_in h
  have hg := rowAt_get (xs := ps) (k := i) (by omega)
  have hp := of_decide_eq_true (hin _ (List.mem_of_getElem? hg))
  unfold pv
  refine ⟨?_, by omega⟩
  rw [hg]
  congr 1
  omega

set_option maxHeartbeats 2000000 in
theorem hasEachOnce_any (ao : Option Addr) (ca n : Nat) (ps : List Int) (w : World) (h4 : n ≤ 4) (hl : ps.length ≤ 1048576) (hx : Rd w ao ps) :
    Calls Try.prog 14 #[.slice ao ps.length ca, .int .i64 n] w fun e w' => e = .returned (.bool (eachB n ps)) ∧ w = w' := by
  by_cases hn : ps.length = n
  · have e1 : ((ps.length : Int) != (n : Int)) = false := by simp [hn]
    have HN := Lib.hid hn
    clear hn
    go_enter Try.func14, Try.ntmps14
    go_wp2
    go_loopw [5, 14] (fun t i wr => ∃ (k : Nat) (s : Int), k ≤ ps.length ∧ i = .int .i64 k ∧ t = .int .i64 s ∧ eachGo n s (ps.drop k) = eachGo n 0 ps ∧ wr = w)
      (fun _ i _ => ps.length - (intOf i).toNat)
    case atStart => exact ⟨0, 0, Nat.zero_le _, rfl, rfl, rfl, rfl⟩
    case round =>
      obtain ⟨k, s, hk, rfl, rfl, ht, rfl⟩ := hrel
      have HT := Lib.hid ht
      clear ht
      by_cases hlt : k < ps.length
      · obtain ⟨b, off, x, hxk, rfl, hbl, hc1⟩ := hx.get k hlt
        have hdr : ps.drop k = x :: ps.drop (k + 1) := by
          rw [List.drop_eq_getElem_cons hlt]
          congr 1
          have := List.getElem?_eq_getElem hlt
          rw [hxk] at this
          simpa using this.symm
        have HD := Lib.hid hdr
        have hi1 : ((k : Nat) : Int) < (ps.length : Int) := by omega
        clear hx hxk hdr
        cases hp : ptB x n with
        | false =>
          go_wp2_with (go_at_call 28; refine (isPoint_any _ _ _).mono ?_; rw [hp]; rintro e w2 ⟨rfl, rfl⟩)
          go_ret
          have := HT.out
          rw [HD.out] at this
          simp only [eachGo, hp, Bool.false_and] at this
          exact ⟨by simp [eachB, ← this], rfl⟩
        | true =>
          obtain ⟨y, rfl⟩ := ptB_fin hp
          have hy4 : y.val < 4 := by have := y.isLt; omega
          cases hb : hasB s y.val with
          | true =>
            go_wp2_with (first | (go_at_call 28; refine (isPoint_any _ _ _).mono ?_; rw [hp]; rintro e w2 ⟨rfl, rfl⟩) | (go_at_call 29; refine (has_any s y.val hy4 _).mono ?_; rw [hb]; rintro e w2 ⟨rfl, rfl⟩))
            go_ret
            have := HT.out
            rw [HD.out] at this
            simp only [eachGo, Int.toNat_natCast, hb, Bool.not_true, Bool.and_false, Bool.false_and] at this
            exact ⟨by simp [eachB, ← this], rfl⟩
          | false =>
            go_wp2_with (first | (go_at_call 28; refine (isPoint_any _ _ _).mono ?_; rw [hp]; rintro e w2 ⟨rfl, rfl⟩) | (go_at_call 29; refine (has_any s y.val hy4 _).mono ?_; rw [hb]; rintro e w2 ⟨rfl, rfl⟩) | (go_at_call 30; refine (with_any s y.val hy4 _).mono ?_; rintro e w2 ⟨rfl, rfl⟩))
            go_roundw
            case rel =>
              refine ⟨k + 1, _, by omega, by go_num, rfl, ?_, by trivial⟩
              have := HT.out
              rw [HD.out] at this
              simp only [eachGo, Int.toNat_natCast, hp, hb, Bool.not_false, Bool.true_and] at this
              exact this
            case measure => simp [intOf]; omega
      · go_wp2
        go_ret
        have := HT.out
        rw [List.drop_of_length_le (by omega)] at this
        exact ⟨by simp [eachB, HN.out, ← this, eachGo], rfl⟩
  · have e1 : ((ps.length : Int) != (n : Int)) = true := by simp; omega
    go_enter Try.func14, Try.ntmps14
    go_wp2
    go_ret
    exact ⟨by simp [eachB, hn], rfl⟩
end Go.Proofs.Ytebkeebgjjmdbab
