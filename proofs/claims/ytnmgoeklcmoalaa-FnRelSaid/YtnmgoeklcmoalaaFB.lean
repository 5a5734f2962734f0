/-
  The model's RelPairs; for lists of at most 2^20 numbers.
-/
import Derived.Test.YtnmgoeklcmoalaaFA
namespace Go.Proofs.Ytnmgoeklcmoalaa
open Go.RowKit

theorem Try.info223 : (Try.prog.info? 23).map (fun i => (i.zero, i.size, i.bytes)) = some (some (.slice none 0 0), 1, 24) := by kernel_rfl

/-- the rows of a list of pairs -/
def PR {n : Nat} (L : List (Fin n × Fin n)) (j : Nat) : List Int := match L[j]? with
  | some p => [(p.1.val : Int), (p.2.val : Int)]
  | none => []
theorem PR_old {n : Nat} (L : List (Fin n × Fin n)) (p : Fin n × Fin n) (j : Nat) (hj : j < L.length) : PR (L ++ [p]) j = PR L j := by
  unfold PR
  rw [List.getElem?_append_left hj]
theorem PR_new {n : Nat} (L : List (Fin n × Fin n)) (p : Fin n × Fin n) : PR (L ++ [p]) L.length = [(p.1.val : Int), (p.2.val : Int)] := by
  unfold PR
  rw [List.getElem?_append_right (Nat.le_refl _), Nat.sub_self]
  rfl
theorem Own2.empty {w : World} {lo : Nat} {v : Value} {r : Nat → List Int} {gs : Nat → Nat} (h : w.ownsRow lo 23 1 v 0 []) : Own2 w lo w.heap.size v 0 r gs :=
  ⟨h, fun k hk => (h.lt k hk).2, Nat.le_refl _, fun i j _ hj => by omega, fun j hj => by omega⟩
theorem Own2.hi {w : World} {lo hi n : Nat} {v : Value} {r : Nat → List Int} {gs : Nat → Nat} (h : Own2 w lo hi v n r gs) : Own2 w lo w.heap.size v n r gs :=
  ⟨h.row, fun k hk => (h.row.lt k hk).2, Nat.le_refl _, h.apart, fun j hj => ⟨(h.rows j hj).1, (h.rows j hj).2.row, fun k hk => ((h.rows j hj).2.row.lt k hk).2, Nat.le_refl _⟩⟩
/-- a row more -/
theorem Own2.push {W w3 : World} {lo n : Nat} {v v' : Value} {r r' : Nat → List Int} {gs : Nat → Nat} (h : Own2 W lo W.heap.size v n r gs) (hlo : lo ≤ W.heap.size) (a b : Int)
    (hown : w3.ownsRow lo 23 1 v' (n + 1) ((List.range n).map (fun k => sl2 (gs k)) ++ [sl2 W.heap.size]))
    (hgrow : ((W.alloc (.cells #[.int .i64 a, .int .i64 b] 3)).alloc (.cells #[sl2 W.heap.size] 23)).grownBy w3 v.ownBlock)
    (hr : ∀ j, j < n → r' j = r j) (hrn : r' n = [a, b]) : Own2 w3 lo w3.heap.size v' (n + 1) r' (fun j => if j = n then W.heap.size else gs j) := by
  have hsz := hgrow.size
  simp only [World.size_alloc] at hsz
  have hold : ∀ j, j < n → gs j < W.heap.size := fun j hj => ((h.rows j hj).2.row.lt _ rfl).2
  refine ⟨?_, fun k hk => (hown.lt k hk).2, Nat.le_refl _, ?_, ?_⟩
  · have e : (List.range (n + 1)).map (fun k => sl2 (if k = n then W.heap.size else gs k)) = (List.range n).map (fun k => sl2 (gs k)) ++ [sl2 W.heap.size] := by
      rw [List.range_succ, List.map_append]
      congr 1
      · apply List.map_congr_left
        intro k hk
        have := List.mem_range.1 hk
        rw [if_neg (by omega)]
      · simp
    rw [e]
    exact hown
  · intro i j hij hj
    show (if i = n then W.heap.size else gs i) ≠ (if j = n then W.heap.size else gs j)
    rw [if_neg (by omega)]
    by_cases e : j = n
    · rw [if_pos e]
      have := hold i (by omega)
      omega
    · rw [if_neg e]
      exact h.apart i j hij (by omega)
  · intro j hj
    by_cases e : j = n
    · subst e
      show (r' j).length = 2 ∧ OwnR w3 lo w3.heap.size (sl2 (if j = j then W.heap.size else gs j)) (r' j)
      rw [if_pos rfl, hrn]
      refine ⟨rfl, ?_, ?_, Nat.le_refl _⟩
      · have h0 : (W.alloc (.cells #[.int .i64 a, .int .i64 b] 3)).ownsRow lo 3 1 (sl2 W.heap.size) 2 [.int .i64 a, .int .i64 b] := World.ownsRow_lit W _ 2 hlo (by unfold maxLen; omega) rfl
        refine own_same (h0.alloc (.cells #[sl2 W.heap.size] 23)) fun k hk => ?_
        cases hk
        refine hgrow.block W.heap.size (by simp; omega) fun e => ?_
        have := (h.row.lt _ e.symm).2
        omega
      · intro k hk
        cases hk
        show W.heap.size < w3.heap.size
        omega
    · show (r' j).length = 2 ∧ OwnR w3 lo w3.heap.size (sl2 (if j = n then W.heap.size else gs j)) (r' j)
      rw [if_neg e, hr j (by omega)]
      obtain ⟨l1, r1⟩ := h.rows j (by omega)
      have hj1 := hold j (by omega)
      refine ⟨l1, own_same r1.row fun k hk => ?_, ?_, Nat.le_refl _⟩
      · cases hk
        refine (hgrow.block (gs j) (by simp; omega) fun e => ?_).trans ((Below.heap_alloc _ _ _ (by simp; omega)).trans (Below.heap_alloc _ _ _ hj1))
        rcases h.row.2 with ⟨rfl, _⟩ | ⟨gp, cap, cur, rfl, _⟩
        · simp [Value.ownBlock] at e
        · have := rows_apart2 r1.row h.row
          simp [Value.ownBlock] at e
          exact this e
      · intro k hk
        cases hk
        show gs j < w3.heap.size
        omega

/-- a contract over lists of rows of two -/
def Gave2 (w : World) (n : Nat) (r : Nat → List Int) (ok : Bool) (e : Ending) (w' : World) : Prop :=
  ∃ v gs, e = .returned (.tuple #[v, .bool ok]) ∧ Own2 w' w.heap.size w'.heap.size v n r gs ∧ Below w.heap.size w w'
def ifPn (xs : List Int) : Nat := if relIn xs then (pairsOf xs).length else 0

set_option maxRecDepth 100000 in
set_option maxHeartbeats 4000000 in
theorem specPairs_yes (ao : Option Addr) (ca : Nat) (xs : List Int) (w : World) (hl : xs.length ≤ 1048576) (hp : relIn xs = true) (hx : Rd w ao xs) :
    Calls Try.prog 24 #[.slice ao xs.length ca] w (Gave2 w (pairsOf xs).length (PR (pairsOf xs)) true) := by
  obtain ⟨i0, hi, hz0, hz1, hz2⟩ := info_parts Try.info223
  have h1 := specRelIn_any ao ca xs (w.alloc (.cells #[] 23)) hl (hx.below (below_one _ _))
  rw [hp] at h1
  obtain ⟨_, h4⟩ := relIn_len hp
  have HP := Lib.hid hp
  have H1 := Lib.hid h1
  have HX := Lib.hid hx
  clear h1 hp hx
  go_enter Try.func24, Try.ntmps24
  go_wp2_with fail
  refine H1.out.mono ?_
  rintro e w1 ⟨rfl, hd⟩
  have hown0 : w1.ownsRow w.heap.size 23 1 (.slice (some ⟨w.heap.size, 0, none⟩) 0 0) 0 [] := hd.row (World.ownsRow_lit w #[] 0 (Nat.le_refl _) (by unfold maxLen; omega) rfl)
  have B1 : Below w.heap.size w w1 := (below_one _ _).trans (hd.below _)
  clear hd
  have E0 : Own2 w1 w.heap.size w1.heap.size (.slice (some ⟨w.heap.size, 0, none⟩) 0 0) (pairsTo xs.length xs 0).length (PR (pairsTo xs.length xs 0)) (fun _ => 0) := by
    have : pairsTo xs.length xs 0 = [] := by simp [pairsTo]
    rw [this]
    exact Own2.empty hown0
  clear hown0
  go_wp2
  go_loopw [4, 5, 6] (fun v i _ wr => ∃ (k : Nat) (gs : Nat → Nat), k ≤ xs.length ∧ i = .int .i64 k ∧ Own2 wr w.heap.size wr.heap.size v (pairsTo xs.length xs (k * xs.length)).length (PR (pairsTo xs.length xs (k * xs.length))) gs ∧ Below w.heap.size w wr)
    (fun _ i _ _ => xs.length - (intOf i).toNat)
  case atStart => exact ⟨0, _, Nat.zero_le _, rfl, by rw [Nat.zero_mul]; exact E0, B1⟩
  case round =>
    clear E0 B1
    obtain ⟨i, gs, hi2, rfl, ho, hB⟩ := hrel
    by_cases hlt : i < xs.length
    · go_wp2
      go_loopw [4, 6] (fun v j wr => ∃ (k : Nat) (gs : Nat → Nat), k ≤ xs.length ∧ j = .int .i64 k ∧ Own2 wr w.heap.size wr.heap.size v (pairsTo xs.length xs (i * xs.length + k)).length (PR (pairsTo xs.length xs (i * xs.length + k))) gs ∧ Below w.heap.size w wr)
        (fun _ j _ => xs.length - (intOf j).toNat)
      case atStart => exact ⟨0, gs, Nat.zero_le _, rfl, ho, hB⟩
      case round =>
        clear ho hB
        obtain ⟨j, gs, hj, rfl, ho, hB⟩ := hrel
        by_cases hlj : j < xs.length
        · obtain ⟨b, off, x, hxk, rfl, hbl, hc1⟩ := (HX.out.below hB).get i hlt
          obtain ⟨y, hy⟩ := row16 HP.out i
          have hxy : x = (y.val : Int) := by
            have := rowAt_get hlt
            rw [hxk, hy] at this
            simpa using this
          rw [hxy] at hc1
          have hi1 : ((i : Nat) : Int) < (xs.length : Int) := by omega
          have hj1 : ((j : Nat) : Int) < (xs.length : Int) := by omega
          have hst := pairsTo_step xs.length h4 xs ⟨i, hlt⟩ ⟨j, hlj⟩
          have hbit := b_bit y ⟨j, by omega⟩
          have hlen16 : (pairsTo xs.length xs (i * xs.length + j)).length ≤ 20 := Nat.le_trans (pairsTo_le _ _ _) (by
            have h5 : i * xs.length ≤ 4 * 4 := Nat.mul_le_mul (by omega) h4
            omega)
          dsimp only at hst hbit
          rw [hy] at hst
          obtain ⟨P, hP⟩ : ∃ P, pairsTo xs.length xs (i * xs.length + j) = P := ⟨_, rfl⟩
          rw [hP] at ho hst hlen16
          cases hb : hasB (y.val : Int) j with
          | false =>
            rw [hb] at hst hbit
            have hb2 : (bits .and .i64 ((y.val : Int) / 2 ^ j) 1 == 1) = false := hbit
            have HST := Lib.hid hst
            clear hxk hxy hy hst hbit hb
            go_wp2
            go_roundw
            case rel =>
              have := HST.out
              simp only [Bool.false_eq_true, if_false, List.append_nil] at this
              exact ⟨j + 1, gs, by omega, by go_num, by rw [← Nat.add_assoc, this]; exact ho, hB⟩
            case measure => simp [intOf]; omega
          | true =>
            rw [hb, if_pos rfl] at hst
            rw [hb] at hbit
            have hb2 : (bits .and .i64 ((y.val : Int) / 2 ^ j) 1 == 1) = true := hbit
            have HST := Lib.hid hst
            have h6 := cell_one_new (wr.alloc (.cells #[.int .i64 i, .int .i64 j] 3)) (sl2 wr.heap.size) 23
            rw [World.size_alloc] at h6
            have H6 := Lib.hid h6
            clear hxk hxy hy hst hbit hb h6
            go_wp2_with (at_builtin; refine wpList_append_own _ rfl (.tmp 32) (.tmp 36) 25 rfl w.heap.size 23 i0 (.slice none 0 0) 1 24 Try.underlying25 hi hz0 hz1 hz2 rfl (by decide) _ _ _ rfl ((ho.row.alloc _).alloc _) ⟨wr.heap.size + 1, 0, none⟩ 1 1 [_] rfl rfl H6.out (by simp [Value.oneCell']) (by unfold maxLen; omega) (by omega) (by have := hB.size; simp; omega) ?_)
            intro v' w6 hown' hgrow _
            have hB6 : Below w.heap.size w w6 := (hB.trans ((below_two wr _ _).mono hB.size)).grown hgrow (Nat.le_trans hB.size (below_two wr _ _).size) (fun q hq => (ho.row.lt q hq).1)
            have hpush := ho.push hB.size (i : Int) (j : Int) hown' hgrow (r' := PR (P ++ [(⟨i, hlt⟩, ⟨j, hlj⟩)])) (fun t ht => PR_old P _ t ht) (PR_new P _)
            have HO := Lib.hid (And.intro hpush hB6)
            clear hown' hgrow hpush hB6 ho hB
            go_wp2
            go_roundw
            case rel => exact ⟨j + 1, _, by omega, by go_num, by rw [← Nat.add_assoc, HST.out, List.length_append]; exact HO.out.1, HO.out.2⟩
            case measure => simp [intOf]; omega
        · obtain rfl : j = xs.length := by omega
          go_wp2
          go_roundw
          case rel => exact ⟨i + 1, gs, by omega, by go_num, by rw [Nat.succ_mul]; exact ho, hB⟩
          case measure => simp [intOf]; omega
    · obtain rfl : i = xs.length := by omega
      go_wp2
      go_ret2
      exact ⟨_, gs, rfl, ho, hB⟩

theorem specRelPairs_any (ao : Option Addr) (ca : Nat) (xs : List Int) (w : World) (hl : xs.length ≤ 1048576) (hx : Rd w ao xs) :
    Calls Try.prog 24 #[.slice ao xs.length ca] w (Gave2 w (ifPn xs) (PR (pairsOf xs)) (relIn xs)) := by
  cases hp : relIn xs with
  | false =>
    have h1 := specRelIn_any ao ca xs (w.alloc (.cells #[] 23)) hl (hx.below (below_one _ _))
    rw [hp] at h1
    have hn : ifPn xs = 0 := by unfold ifPn; rw [hp]; rfl
    have H1 := Lib.hid h1
    rw [hn]
    clear h1 hp hn
    go_enter Try.func24, Try.ntmps24
    go_wp2_with fail
    refine H1.out.mono ?_
    rintro e w1 ⟨rfl, hd⟩
    go_wp2
    go_ret2
    exact ⟨_, fun _ => 0, rfl, Own2.empty (hd.row (World.ownsRow_lit w #[] 0 (Nat.le_refl _) (by unfold maxLen; omega) rfl)), (below_one _ _).trans (hd.below _)⟩
  | true =>
    have hn : ifPn xs = (pairsOf xs).length := by unfold ifPn; rw [hp]; rfl
    rw [hn]
    exact specPairs_yes ao ca xs w hl hp hx
end Go.Proofs.Ytnmgoeklcmoalaa
