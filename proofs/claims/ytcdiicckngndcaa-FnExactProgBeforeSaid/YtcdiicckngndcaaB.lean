/-
  Contracts of markIntS and heldIntS: a list of the call's own is filled with marks, and found to hold them; for lists of at most 2^20 numbers.
-/
import Derived.Test.YtcdiicckngndcaaA
namespace Go.Proofs.Ytcdiicckngndcaa
open Go.RowKit

/-- the marks from k on -/
def marks (k n : Nat) : List Int := (List.range n).map fun i => ((k + i : Nat) : Int)

theorem marks_get (k n i : Nat) (h : i < n) : (marks k n)[i]? = some (((k + i : Nat) : Int)) := by simp [marks, h]
theorem marks_len (k n : Nat) : (marks k n).length = n := by simp [marks]

theorem grown_setCell (w : World) (g j : Nat) (u : Value) : w.grownBy (w.setCell ⟨g, j, none⟩ u) (some g) :=
  ⟨rfl, rfl, rfl, by simp, fun k _ hk => heap_setCell_other w ⟨g, j, none⟩ k u (fun e => hk (by simp [e]))⟩

theorem marks_step (xs : List Value) (k n i : Nat) (h : i < n) (hx : xs.length = n) :
    ((marks k i).map (Value.int .i64) ++ xs.drop i).set i (Value.int .i64 ((k + i : Nat) : Int)) = (marks k (i + 1)).map (Value.int .i64) ++ xs.drop (i + 1) := by
  have hd : xs.drop i = xs[i] :: xs.drop (i + 1) := List.drop_eq_getElem_cons (by omega)
  rw [hd, List.set_append_right _ _ (by simp [marks])]
  have : i - (List.map (Value.int .i64) (marks k i)).length = 0 := by simp [marks]
  rw [this, List.set_cons_zero]
  simp [marks, List.range_succ]

set_option maxHeartbeats 1000000 in
theorem markIntS_some (base g cap n k : Nat) (xs : List Value) (w : World) (hn : n ≤ 1048576) (hk : k ≤ 1099511627776) (ho : w.ownsRow base 3 1 (.slice (some ⟨g, 0, none⟩) n cap) n xs) :
    Calls Try.prog 25 #[.slice (some ⟨g, 0, none⟩) n cap, .int .i64 k] w fun e w' => e = .returned (.int .i64 ((k + n : Nat) : Int)) ∧
      w'.ownsRow base 3 1 (.slice (some ⟨g, 0, none⟩) n cap) n ((marks k n).map (Value.int .i64)) ∧ w.grownBy w' (some g) := by
  have hxl : xs.length = n := by simpa using ho.1
  go_enter Try.func25, Try.ntmps25
  go_wp2
  go_loopw [1, 5] (fun q i wr => ∃ j : Nat, j ≤ n ∧ i = .int .i64 j ∧ q = .int .i64 ((k + j : Nat) : Int) ∧ wr.ownsRow base 3 1 (.slice (some ⟨g, 0, none⟩) n cap) n ((marks k j).map (Value.int .i64) ++ xs.drop j) ∧ w.grownBy wr (some g))
    (fun _ i _ => n - (intOf i).toNat)
  case atStart => exact ⟨0, Nat.zero_le _, rfl, rfl, by simpa [marks] using ho, World.grownBy.refl _ _⟩
  case round =>
    obtain ⟨j, hj, rfl, rfl, hr, hg⟩ := hrel
    by_cases hlt : j < n
    · have hc2 := hr.cellAt j (by omega)
      have hf2 := hr.frozenAt j
      obtain ⟨u, hu⟩ : ∃ u, ((marks k j).map (Value.int .i64) ++ xs.drop j)[j]? = some u := ⟨_, List.getElem?_eq_getElem (by simp [marks]; omega)⟩
      rw [hu] at hc2
      have HL := Lib.hid hxl
      clear ho hu hxl
      go_wp2
      go_roundw
      case rel =>
        refine ⟨j + 1, by omega, by go_num, by go_num, ?_, ?_⟩
        · have := (hr.stored j (.int .i64 ((k + j : Nat) : Int))).1
          rw [marks_step xs k n j hlt HL.out] at this
          simpa using this
        · exact hg.trans (by simpa using grown_setCell wr g j (.int .i64 ((k + j : Nat) : Int)))
      case measure => simp [intOf]; omega
    · go_wp2
      go_ret
      obtain rfl : j = n := by omega
      rw [List.drop_of_length_le (by omega), List.append_nil] at hr
      exact ⟨rfl, hr, hg⟩

theorem markIntS_none (k : Nat) (w : World) :
    Calls Try.prog 25 #[.slice none 0 0, .int .i64 k] w fun e w' => e = .returned (.int .i64 (k : Int)) ∧ w' = w := by
  go_enter Try.func25, Try.ntmps25
  go_wp2
  go_loopw [1, 5] (fun q i wr => i = .int .i64 0 ∧ q = .int .i64 (k : Int) ∧ wr = w) (fun _ i _ => 0)
  case atStart => exact ⟨rfl, rfl, rfl⟩
  case round =>
    obtain ⟨rfl, rfl, rfl⟩ := hrel
    go_wp2
    go_ret
    exact ⟨rfl, rfl⟩

set_option maxHeartbeats 1000000 in
theorem heldIntS_any (ao : Option Addr) (n cap k : Nat) (w : World) (hn : n ≤ 1048576) (hk : k ≤ 1099511627776) (hr : Rd w ao (marks k n)) :
    Calls Try.prog 26 #[.slice ao n cap, .int .i64 k] w fun e w' => e = .returned (.int .i64 ((k + n : Nat) : Int)) ∧ w' = w := by
  go_enter Try.func26, Try.ntmps26
  go_wp2
  go_loopw [1, 5] (fun q i wr => ∃ j : Nat, j ≤ n ∧ i = .int .i64 j ∧ q = .int .i64 ((k + j : Nat) : Int) ∧ wr = w)
    (fun _ i _ => n - (intOf i).toNat)
  case atStart => exact ⟨0, Nat.zero_le _, rfl, rfl, rfl⟩
  case round =>
    obtain ⟨j, hj, rfl, rfl, rfl⟩ := hrel
    by_cases hlt : j < n
    · obtain ⟨b, off, rfl, hbl, hc1⟩ := hr j _ (marks_get k n j hlt)
      clear hr
      go_wp2
      go_roundw
      case rel => exact ⟨j + 1, by omega, by go_num, by go_num, by trivial⟩
      case measure => simp [intOf]; omega
    · go_wp2
      go_ret
      obtain rfl : j = n := by omega
      exact ⟨rfl, rfl⟩
end Go.Proofs.Ytcdiicckngndcaa
