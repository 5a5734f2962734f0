/-
  toIntSS (the laws' helper); the model's RelOf.
-/
import Derived.Test.YtnmgoeklcmoalabW
import Derived.Test.YtnmgoeklcmoalabEA
import Derived.BigQuiet
namespace Go.Proofs.Ytnmgoeklcmoalab
open Go.RowKit

/-- a point of n -/
def ptB (i : Int) (n : Nat) : Bool := decide (0 ≤ i ∧ i < n)

theorem isPoint_any (i : Int) (n : Nat) (w : World) :
    Calls Try.prog 52 #[.int .i64 i, .int .i64 n] w fun e w' => e = .returned (.bool (ptB i n)) ∧ w = w' := by
  unfold ptB
  go_enter Try.func52, Try.ntmps52
  by_cases h : 0 ≤ i
  · by_cases h2 : i < n
    · go_wp2
      go_ret
      exact ⟨by simp [h, h2], rfl⟩
    · go_wp2
      go_ret
      exact ⟨by simp [h2], rfl⟩
  · go_wp2
    go_ret
    exact ⟨by simp; omega, rfl⟩

/-- each point once, as the program asks it -/
def eachGo (n : Nat) : Int → List Int → Bool
  | _, [] => true
  | t, i :: r => ptB i n && !(hasB t i.toNat) && eachGo n (bits .or .i64 t (pt i.toNat)) r
def eachB (n : Nat) (ps : List Int) : Bool := decide (ps.length = n) && eachGo n 0 ps
/-- .. and as the model asks it -/
def seenGo (n : Nat) : Int → List Int → Option Int
  | s, [] => some s
  | s, i :: r => if ptB i n then seenGo n (bits .or .i64 s (pt i.toNat)) r else none
def seenB (n : Nat) (ps : List Int) : Bool := decide (ps.length = n) && (seenGo n 0 ps == some (2 ^ n - 1))

theorem eachGo_in (n : Nat) : ∀ (ps : List Int) (t : Int), eachGo n t ps = true → ∀ i ∈ ps, ptB i n = true := by
  intro ps
  induction ps with
  | nil => intro t _ i hi; cases hi
  | cons p r ih =>
    intro t h i hi
    simp only [eachGo, Bool.and_eq_true] at h
    rcases List.mem_cons.1 hi with rfl | hi
    · exact h.1.1
    · exact ih _ h.2 i hi
theorem seenGo_in (n : Nat) : ∀ (ps : List Int) (t s : Int), seenGo n t ps = some s → ∀ i ∈ ps, ptB i n = true := by
  intro ps
  induction ps with
  | nil => intro t s _ i hi; cases hi
  | cons p r ih =>
    intro t s h i hi
    unfold seenGo at h
    by_cases hp : ptB p n = true
    · rw [if_pos hp] at h
      rcases List.mem_cons.1 hi with rfl | hi
      · exact hp
      · exact ih _ _ h i hi
    · rw [if_neg hp] at h
      cases h

theorem each1 : ∀ a : Fin 1, eachB 1 [(a.val : Int)] = seenB 1 [(a.val : Int)] := by decide +kernel
theorem each2 : ∀ a b : Fin 2, eachB 2 [(a.val : Int), (b.val : Int)] = seenB 2 [(a.val : Int), (b.val : Int)] := by decide +kernel
theorem each3 : ∀ a b c : Fin 3, eachB 3 [(a.val : Int), (b.val : Int), (c.val : Int)] = seenB 3 [(a.val : Int), (b.val : Int), (c.val : Int)] := by decide +kernel
theorem each4 : ∀ a b c d : Fin 4, eachB 4 [(a.val : Int), (b.val : Int), (c.val : Int), (d.val : Int)] = seenB 4 [(a.val : Int), (b.val : Int), (c.val : Int), (d.val : Int)] := by decide +kernel

theorem ptB_fin {i : Int} {n : Nat} (h : ptB i n = true) : ∃ a : Fin n, i = (a.val : Int) := by
  have := of_decide_eq_true h
  exact ⟨⟨i.toNat, by omega⟩, by simp; omega⟩

theorem each_same (n : Nat) (h1 : 1 ≤ n) (h4 : n ≤ 4) (ps : List Int) : eachB n ps = seenB n ps := by
  by_cases hl : ps.length = n
  · by_cases hin : ∀ i ∈ ps, ptB i n = true
    · rcases (by omega : n = 1 ∨ n = 2 ∨ n = 3 ∨ n = 4) with rfl | rfl | rfl | rfl
      · match ps, hl with
        | [a], _ =>
          obtain ⟨a, rfl⟩ := ptB_fin (hin a (by simp))
          exact each1 a
      · match ps, hl with
        | [a, b], _ =>
          obtain ⟨a, rfl⟩ := ptB_fin (hin a (by simp))
          obtain ⟨b, rfl⟩ := ptB_fin (hin b (by simp))
          exact each2 a b
      · match ps, hl with
        | [a, b, c], _ =>
          obtain ⟨a, rfl⟩ := ptB_fin (hin a (by simp))
          obtain ⟨b, rfl⟩ := ptB_fin (hin b (by simp))
          obtain ⟨c, rfl⟩ := ptB_fin (hin c (by simp))
          exact each3 a b c
      · match ps, hl with
        | [a, b, c, d], _ =>
          obtain ⟨a, rfl⟩ := ptB_fin (hin a (by simp))
          obtain ⟨b, rfl⟩ := ptB_fin (hin b (by simp))
          obtain ⟨c, rfl⟩ := ptB_fin (hin c (by simp))
          obtain ⟨d, rfl⟩ := ptB_fin (hin d (by simp))
          exact each4 a b c d
    · have e1 : eachB n ps = false := by
        cases h : eachGo n 0 ps with
        | false => simp [eachB, h]
        | true => exact absurd (eachGo_in n ps 0 h) hin
      have e2 : seenB n ps = false := by
        cases h : seenGo n 0 ps with
        | none => simp [seenB, h]
        | some s => exact absurd (seenGo_in n ps 0 s h) hin
      rw [e1, e2]
  · simp [eachB, seenB, hl]

theorem eachB_in {n : Nat} {ps : List Int} (h : eachB n ps = true) : ps.length = n ∧ ∀ i ∈ ps, ptB i n = true := by
  unfold eachB at h
  rw [Bool.and_eq_true] at h
  exact ⟨of_decide_eq_true h.1, eachGo_in n ps 0 h.2⟩

/-- the number at a place, as a point -/
def pv (ps : List Int) (i : Nat) : Nat := (rowAt ps i).toNat
/-- pairs under other names, one by one -/
def namedAcc (n : Nat) (ps : List Int) (pre : List (Fin n × Fin n)) : List Int := pre.foldl (fun zs p => addPair zs (pv ps p.1.val) (pv ps p.2.val)) (List.replicate n 0)
theorem namedAcc_snoc (n : Nat) (ps : List Int) (pre : List (Fin n × Fin n)) (p : Fin n × Fin n) : namedAcc n ps (pre ++ [p]) = addPair (namedAcc n ps pre) (pv ps p.1.val) (pv ps p.2.val) := by
  unfold namedAcc
  rw [List.foldl_append]
  rfl
theorem namedAcc_len (n : Nat) (ps : List Int) (pre : List (Fin n × Fin n)) : (namedAcc n ps pre).length = n := by
  have h : ∀ (l : List (Fin n × Fin n)) (zs : List Int), (l.foldl (fun zs p => addPair zs (pv ps p.1.val) (pv ps p.2.val)) zs).length = zs.length := by
    intro l
    induction l with
    | nil => intro zs; rfl
    | cons p r ih => intro zs; rw [List.foldl_cons, ih, addPair_len]
  unfold namedAcc
  rw [h]
  simp
theorem pv_at {n : Nat} {ps : List Int} (h : eachB n ps = true) (i : Nat) (hi : i < n) : ps[i]? = some ((pv ps i : Nat) : Int) ∧ pv ps i < n := by
  obtain ⟨hl, hin⟩ := eachB_in h
  have hg := rowAt_get (xs := ps) (k := i) (by omega)
  have hp := of_decide_eq_true (hin _ (List.mem_of_getElem? hg))
  unfold pv
  refine ⟨?_, by omega⟩
  rw [hg]
  congr 1
  omega

set_option maxHeartbeats 2000000 in
theorem hasEachOnce_any (ao : Option Addr) (ca n : Nat) (ps : List Int) (w : World) (h4 : n ≤ 4) (hl : ps.length ≤ 1048576) (hx : Rd w ao ps) :
    Calls Try.prog 57 #[.slice ao ps.length ca, .int .i64 n] w fun e w' => e = .returned (.bool (eachB n ps)) ∧ w = w' := by
  by_cases hn : ps.length = n
  · have e1 : ((ps.length : Int) != (n : Int)) = false := by simp [hn]
    have HN := Lib.hid hn
    clear hn
    go_enter Try.func57, Try.ntmps57
    go_wp2
    go_loopw [5, 14] (fun t i wr => ∃ (k : Nat) (s : Int), k ≤ ps.length ∧ i = .int .i64 k ∧ t = .int .i64 s ∧ eachGo n s (ps.drop k) = eachGo n 0 ps ∧ wr = w)
      (fun _ i _ => ps.length - (intOf i).toNat)
    case atStart => exact ⟨0, 0, Nat.zero_le _, rfl, rfl, rfl, rfl⟩
    case round =>
      obtain ⟨k, s, hk, rfl, rfl, ht, rfl⟩ := hrel
      have HT := Lib.hid ht
      clear ht
      by_cases hlt : k < ps.length
      · obtain ⟨b, off, x, hxk, rfl, hbl, hc1⟩ := hx.get k hlt
        have hdr : ps.drop k = x :: ps.drop (k + 1) := by
          rw [List.drop_eq_getElem_cons hlt]
          congr 1
          have := List.getElem?_eq_getElem hlt
          rw [hxk] at this
          simpa using this.symm
        have HD := Lib.hid hdr
        have hi1 : ((k : Nat) : Int) < (ps.length : Int) := by omega
        clear hx hxk hdr
        cases hp : ptB x n with
        | false =>
          go_wp2_with (go_at_call 52; refine (isPoint_any _ _ _).mono ?_; rw [hp]; rintro e w2 ⟨rfl, rfl⟩)
          go_ret
          have := HT.out
          rw [HD.out] at this
          simp only [eachGo, hp, Bool.false_and] at this
          exact ⟨by simp [eachB, ← this], rfl⟩
        | true =>
          obtain ⟨y, rfl⟩ := ptB_fin hp
          have hy4 : y.val < 4 := by have := y.isLt; omega
          cases hb : hasB s y.val with
          | true =>
            go_wp2_with (first | (go_at_call 52; refine (isPoint_any _ _ _).mono ?_; rw [hp]; rintro e w2 ⟨rfl, rfl⟩) | (go_at_call 67; refine (has_any s y.val hy4 _).mono ?_; rw [hb]; rintro e w2 ⟨rfl, rfl⟩))
            go_ret
            have := HT.out
            rw [HD.out] at this
            simp only [eachGo, Int.toNat_natCast, hb, Bool.not_true, Bool.and_false, Bool.false_and] at this
            exact ⟨by simp [eachB, ← this], rfl⟩
          | false =>
            go_wp2_with (first | (go_at_call 52; refine (isPoint_any _ _ _).mono ?_; rw [hp]; rintro e w2 ⟨rfl, rfl⟩) | (go_at_call 67; refine (has_any s y.val hy4 _).mono ?_; rw [hb]; rintro e w2 ⟨rfl, rfl⟩) | (go_at_call 73; refine (with_any s y.val hy4 _).mono ?_; rintro e w2 ⟨rfl, rfl⟩))
            go_roundw
            case rel =>
              refine ⟨k + 1, _, by omega, by go_num, rfl, ?_, by trivial⟩
              have := HT.out
              rw [HD.out] at this
              simp only [eachGo, Int.toNat_natCast, hp, hb, Bool.not_false, Bool.true_and] at this
              exact this
            case measure => simp [intOf]; omega
      · go_wp2
        go_ret
        have := HT.out
        rw [List.drop_of_length_le (by omega)] at this
        exact ⟨by simp [eachB, HN.out, ← this, eachGo], rfl⟩
  · have e1 : ((ps.length : Int) != (n : Int)) = true := by simp; omega
    go_enter Try.func57, Try.ntmps57
    go_wp2
    go_ret
    exact ⟨by simp [eachB, hn], rfl⟩
end Go.Proofs.Ytnmgoeklcmoalab

namespace Go.Proofs.Ytnmgoeklcmoalab
open Go.RowKit

/-- a row of two numbers in a block of its own -/
abbrev sl2 (g : Nat) : Value := .slice (some ⟨g, 0, none⟩) 2 2
theorem own_same {w w' : World} {lo n size : Nat} {e : TypeId} {v : Value} {us : List Value} (h : w.ownsRow lo e size v n us) (hb : ∀ k, v.ownBlock = some k → w'.heap[k]? = w.heap[k]?) : w'.ownsRow lo e size v n us := by
  refine ⟨h.1, ?_⟩
  rcases h.2 with h2 | ⟨g, cap, cur, rfl, h2, h3, h4⟩
  · exact .inl h2
  · exact .inr ⟨g, cap, cur, rfl, h2, (hb g rfl).trans h3, h4⟩
theorem OwnR.same {w w' : World} {lo hi : Nat} {v : Value} {xs : List Int} (h : OwnR w lo hi v xs) (hs : hi ≤ w'.heap.size) (hb : ∀ k, v.ownBlock = some k → w'.heap[k]? = w.heap[k]?) : OwnR w' lo hi v xs :=
  ⟨own_same h.row hb, h.top, hs⟩
/-- v is a list of n rows of two numbers, all in blocks of their own from lo on and below hi -/
structure Own2 (w : World) (lo hi : Nat) (v : Value) (n : Nat) (r : Nat → List Int) (gs : Nat → Nat) : Prop where
  row : w.ownsRow lo 23 1 v n ((List.range n).map fun k => sl2 (gs k))
  top : ∀ k, v.ownBlock = some k → k < hi
  size : hi ≤ w.heap.size
  apart : ∀ i j, i < j → j < n → gs i ≠ gs j
  rows : ∀ j, j < n → (r j).length = 2 ∧ OwnR w lo hi (sl2 (gs j)) (r j)
theorem Own2.same {w w' : World} {lo hi n : Nat} {v : Value} {r : Nat → List Int} {gs : Nat → Nat} (h : Own2 w lo hi v n r gs) (hs : hi ≤ w'.heap.size) (hb : ∀ k, lo ≤ k → k < hi → w'.heap[k]? = w.heap[k]?) : Own2 w' lo hi v n r gs :=
  ⟨own_same h.row fun k hk => hb k (h.row.lt k hk).1 (h.top k hk), h.top, hs, h.apart, fun j hj => ⟨(h.rows j hj).1, (h.rows j hj).2.same hs fun k hk => hb k ((h.rows j hj).2.base hk) ((h.rows j hj).2.top k hk)⟩⟩
theorem Own2.below {w w' : World} {lo hi n B : Nat} {v : Value} {r : Nat → List Int} {gs : Nat → Nat} (h : Own2 w lo hi v n r gs) (hb : Below B w w') (hB : hi ≤ B) : Own2 w' lo hi v n r gs :=
  h.same (Nat.le_trans h.size hb.size) fun k _ h2 => hb.block k (by omega)
theorem Own2.dn {w w' : World} {lo hi n : Nat} {v : Value} {r : Nat → List Int} {gs : Nat → Nat} (h : Own2 w lo hi v n r gs) (hd : Dn w w') : Own2 w' lo hi v n r gs :=
  h.same (by rw [hd.heap]; exact h.size) fun k _ _ => by rw [hd.heap]
theorem Own2.grown {w w' : World} {lo hi n : Nat} {v : Value} {r : Nat → List Int} {gs : Nat → Nat} {row : Option Nat} (h : Own2 w lo hi v n r gs) (hg : w.grownBy w' row) (hr : ∀ k, row = some k → hi ≤ k ∨ k < lo) : Own2 w' lo hi v n r gs :=
  h.same (Nat.le_trans h.size hg.size) fun k h1 h2 => hg.block k (Nat.lt_of_lt_of_le h2 h.size) (by
    intro e
    rcases hr k e.symm with h3 | h3 <;> omega)
/-- what the list reads as, cell by cell -/
theorem Own2.rd {w : World} {lo hi n : Nat} {v : Value} {r : Nat → List Int} {gs : Nat → Nat} (h : Own2 w lo hi v n r gs) : ∃ ao cap, v = .slice ao n cap ∧ ∀ k, k < n → ∃ b, ao = some ⟨b, 0, none⟩ ∧ w.cell? ⟨b, k, none⟩ = some (sl2 (gs k)) := by
  rcases h.row.2 with ⟨rfl, h2⟩ | ⟨g, cap, cur, rfl, _⟩
  · subst h2
    exact ⟨none, 0, rfl, fun k hk => absurd hk (by omega)⟩
  · refine ⟨_, cap, rfl, fun k hk => ⟨g, rfl, ?_⟩⟩
    rw [h.row.cellAt k (by omega), List.getElem?_map, List.getElem?_range hk]
    rfl

/-- only blocks from lo on and below hi may have changed -/
structure Only (lo hi : Nat) (w w' : World) : Prop where
  below : Below lo w w'
  above : ∀ b, hi ≤ b → b < w.heap.size → w'.heap[b]? = w.heap[b]?
theorem Only.refl {lo hi : Nat} {w : World} : Only lo hi w w := ⟨Below.refl _ _, fun _ _ _ => rfl⟩
theorem Only.grown {lo hi : Nat} {w w1 w2 : World} {g : Nat} (h : Only lo hi w w1) (hg : w1.grownBy w2 (some g)) (h1 : lo ≤ g) (h2 : g < hi) (hs : lo ≤ w1.heap.size) : Only lo hi w w2 :=
  ⟨h.below.grown hg hs (fun q hq => by cases hq; exact h1), fun b hb hlt => (hg.block b (Nat.lt_of_lt_of_le hlt h.below.size) (by simp; omega)).trans (h.above b hb hlt)⟩
theorem rows_apart2 {w : World} {b1 b2 s1 s2 n1 m1 n2 g gp c1 c2 : Nat} {u1 u2 : List Value} (h : w.ownsRow b1 3 s1 (.slice (some ⟨g, 0, none⟩) n1 c1) m1 u1) (k : w.ownsRow b2 23 s2 (.slice (some ⟨gp, 0, none⟩) n2 c2) n2 u2) : g ≠ gp := by
  rcases h.2 with ⟨h2, _⟩ | ⟨g', cap', cur', he, _, hh, _⟩
  · cases h2
  · cases he
    rcases k.2 with ⟨k2, _⟩ | ⟨gp', cap2, cur2, ke, _, kh, _⟩
    · cases k2
    · cases ke
      rintro rfl
      rw [hh] at kh
      simp at kh

end Go.Proofs.Ytnmgoeklcmoalab

namespace Go.Proofs.Ytnmgoeklcmoalab
open Go.RowKit

theorem Try.info223 : (Try.prog.info? 23).map (fun i => (i.zero, i.size, i.bytes)) = some (some (.slice none 0 0), 1, 24) := by kernel_rfl

/-- the rows of a list of pairs -/
def PR {n : Nat} (L : List (Fin n × Fin n)) (j : Nat) : List Int := match L[j]? with
  | some p => [(p.1.val : Int), (p.2.val : Int)]
  | none => []
theorem PR_old {n : Nat} (L : List (Fin n × Fin n)) (p : Fin n × Fin n) (j : Nat) (hj : j < L.length) : PR (L ++ [p]) j = PR L j := by
  unfold PR
  rw [List.getElem?_append_left hj]
theorem PR_new {n : Nat} (L : List (Fin n × Fin n)) (p : Fin n × Fin n) : PR (L ++ [p]) L.length = [(p.1.val : Int), (p.2.val : Int)] := by
  unfold PR
  rw [List.getElem?_append_right (Nat.le_refl _), Nat.sub_self]
  rfl
theorem Own2.empty {w : World} {lo : Nat} {v : Value} {r : Nat → List Int} {gs : Nat → Nat} (h : w.ownsRow lo 23 1 v 0 []) : Own2 w lo w.heap.size v 0 r gs :=
  ⟨h, fun k hk => (h.lt k hk).2, Nat.le_refl _, fun i j _ hj => by omega, fun j hj => by omega⟩
theorem Own2.hi {w : World} {lo hi n : Nat} {v : Value} {r : Nat → List Int} {gs : Nat → Nat} (h : Own2 w lo hi v n r gs) : Own2 w lo w.heap.size v n r gs :=
  ⟨h.row, fun k hk => (h.row.lt k hk).2, Nat.le_refl _, h.apart, fun j hj => ⟨(h.rows j hj).1, (h.rows j hj).2.row, fun k hk => ((h.rows j hj).2.row.lt k hk).2, Nat.le_refl _⟩⟩
/-- a row more -/
theorem Own2.push {W w3 : World} {lo n : Nat} {v v' : Value} {r r' : Nat → List Int} {gs : Nat → Nat} (h : Own2 W lo W.heap.size v n r gs) (hlo : lo ≤ W.heap.size) (a b : Int)
    (hown : w3.ownsRow lo 23 1 v' (n + 1) ((List.range n).map (fun k => sl2 (gs k)) ++ [sl2 W.heap.size]))
    (hgrow : ((W.alloc (.cells #[.int .i64 a, .int .i64 b] 3)).alloc (.cells #[sl2 W.heap.size] 23)).grownBy w3 v.ownBlock)
    (hr : ∀ j, j < n → r' j = r j) (hrn : r' n = [a, b]) : Own2 w3 lo w3.heap.size v' (n + 1) r' (fun j => if j = n then W.heap.size else gs j) := by
  have hsz := hgrow.size
  simp only [World.size_alloc] at hsz
  have hold : ∀ j, j < n → gs j < W.heap.size := fun j hj => ((h.rows j hj).2.row.lt _ rfl).2
  refine ⟨?_, fun k hk => (hown.lt k hk).2, Nat.le_refl _, ?_, ?_⟩
  · have e : (List.range (n + 1)).map (fun k => sl2 (if k = n then W.heap.size else gs k)) = (List.range n).map (fun k => sl2 (gs k)) ++ [sl2 W.heap.size] := by
      rw [List.range_succ, List.map_append]
      congr 1
      · apply List.map_congr_left
        intro k hk
        have := List.mem_range.1 hk
        rw [if_neg (by omega)]
      · simp
    rw [e]
    exact hown
  · intro i j hij hj
    show (if i = n then W.heap.size else gs i) ≠ (if j = n then W.heap.size else gs j)
    rw [if_neg (by omega)]
    by_cases e : j = n
    · rw [if_pos e]
      have := hold i (by omega)
      omega
    · rw [if_neg e]
      exact h.apart i j hij (by omega)
  · intro j hj
    by_cases e : j = n
    · subst e
      show (r' j).length = 2 ∧ OwnR w3 lo w3.heap.size (sl2 (if j = j then W.heap.size else gs j)) (r' j)
      rw [if_pos rfl, hrn]
      refine ⟨rfl, ?_, ?_, Nat.le_refl _⟩
      · have h0 : (W.alloc (.cells #[.int .i64 a, .int .i64 b] 3)).ownsRow lo 3 1 (sl2 W.heap.size) 2 [.int .i64 a, .int .i64 b] := World.ownsRow_lit W _ 2 hlo (by unfold maxLen; omega) rfl
        refine own_same (h0.alloc (.cells #[sl2 W.heap.size] 23)) fun k hk => ?_
        cases hk
        refine hgrow.block W.heap.size (by simp; omega) fun e => ?_
        have := (h.row.lt _ e.symm).2
        omega
      · intro k hk
        cases hk
        show W.heap.size < w3.heap.size
        omega
    · show (r' j).length = 2 ∧ OwnR w3 lo w3.heap.size (sl2 (if j = n then W.heap.size else gs j)) (r' j)
      rw [if_neg e, hr j (by omega)]
      obtain ⟨l1, r1⟩ := h.rows j (by omega)
      have hj1 := hold j (by omega)
      refine ⟨l1, own_same r1.row fun k hk => ?_, ?_, Nat.le_refl _⟩
      · cases hk
        refine (hgrow.block (gs j) (by simp; omega) fun e => ?_).trans ((Below.heap_alloc _ _ _ (by simp; omega)).trans (Below.heap_alloc _ _ _ hj1))
        rcases h.row.2 with ⟨rfl, _⟩ | ⟨gp, cap, cur, rfl, _⟩
        · simp [Value.ownBlock] at e
        · have := rows_apart2 r1.row h.row
          simp [Value.ownBlock] at e
          exact this e
      · intro k hk
        cases hk
        show gs j < w3.heap.size
        omega

/-- a contract over lists of rows of two -/
def Gave2 (w : World) (n : Nat) (r : Nat → List Int) (ok : Bool) (e : Ending) (w' : World) : Prop :=
  ∃ v gs, e = .returned (.tuple #[v, .bool ok]) ∧ Own2 w' w.heap.size w'.heap.size v n r gs ∧ Below w.heap.size w w'
def ifPn (xs : List Int) : Nat := if relIn xs then (pairsOf xs).length else 0

end Go.Proofs.Ytnmgoeklcmoalab

namespace Go.Proofs.Ytnmgoeklcmoalab
open Go.RowKit

/-- the slice at this address reads as these lists -/
def RdS (w : World) (ao : Option Addr) (xss : List (List Int)) : Prop :=
  ∀ k xs, xss[k]? = some xs → ∃ b off ak ck, ao = some ⟨b, off, none⟩ ∧ b < w.heap.size ∧ w.cell? ⟨b, off + k, none⟩ = some (.slice ak xs.length ck) ∧ Rd w ak xs
theorem RdS.below {w w' : World} {ao : Option Addr} {xss : List (List Int)} (h : RdS w ao xss) (hb : Below w.heap.size w w') : RdS w' ao xss := by
  intro k xs hx
  obtain ⟨b, off, ak, ck, h1, h2, h3, h4⟩ := h k xs hx
  exact ⟨b, off, ak, ck, h1, Nat.lt_of_lt_of_le h2 hb.size, (hb.cell (p := ⟨b, off + k, none⟩) h2).trans h3, h4.below hb⟩
def sumTo (xss : List (List Int)) (k : Nat) : Nat := ((xss.take k).map List.length).sum
theorem sumTo_succ (xss : List (List Int)) (k : Nat) (xs : List Int) (h : xss[k]? = some xs) : sumTo xss (k + 1) = sumTo xss k + xs.length := by
  unfold sumTo
  rw [List.take_add_one, h]
  simp
theorem sumTo_le (xss : List (List Int)) (k : Nat) (xs : List Int) (h : xss[k]? = some xs) : xs.length ≤ sumTo xss xss.length := by
  have hk : k < xss.length := (List.getElem?_eq_some_iff.1 h).1
  have h2 : ∀ m, k < m → m ≤ xss.length → xs.length ≤ sumTo xss m := by
    intro m hm
    induction m with
    | zero => omega
    | succ m ih =>
      intro hle
      rw [sumTo_succ xss m _ (List.getElem?_eq_getElem (by omega))]
      by_cases e : k = m
      · subst e
        rw [List.getElem?_eq_getElem hk] at h
        have := Option.some.inj h
        rw [this]
        omega
      · have := ih (by omega) (by omega)
        omega
  exact h2 _ hk (Nat.le_refl _)
theorem sumTo_mono (xss : List (List Int)) : ∀ k m, k ≤ m → m ≤ xss.length → sumTo xss k ≤ sumTo xss m := by
  intro k m hkm
  induction m with
  | zero => intro _; rw [show k = 0 by omega]; exact Nat.le_refl _
  | succ m ih =>
    intro hm
    by_cases e : k = m + 1
    · rw [e]; exact Nat.le_refl _
    · have := ih (by omega) (by omega)
      rw [sumTo_succ xss m _ (List.getElem?_eq_getElem (by omega))]
      omega

/-- v is a list of lists of the call's own, all in blocks from lo on and below hi -/
structure OwnS (w : World) (lo hi : Nat) (v : Value) (xss : List (List Int)) (us : Nat → Value) : Prop where
  row : w.ownsRow lo 23 1 v xss.length ((List.range xss.length).map us)
  top : ∀ k, v.ownBlock = some k → k < hi
  size : hi ≤ w.heap.size
  apart : ∀ i j k, i < j → j < xss.length → (us i).ownBlock = some k → (us j).ownBlock ≠ some k
  rows : ∀ j xs, xss[j]? = some xs → OwnR w lo hi (us j) xs
theorem OwnS.same {w w' : World} {lo hi : Nat} {v : Value} {xss : List (List Int)} {us : Nat → Value} (h : OwnS w lo hi v xss us) (hs : hi ≤ w'.heap.size) (hb : ∀ k, lo ≤ k → k < hi → w'.heap[k]? = w.heap[k]?) : OwnS w' lo hi v xss us :=
  ⟨own_same h.row fun k hk => hb k (h.row.lt k hk).1 (h.top k hk), h.top, hs, h.apart, fun j xs hj => (h.rows j xs hj).same hs fun k hk => hb k ((h.rows j xs hj).base hk) ((h.rows j xs hj).top k hk)⟩
theorem OwnS.below {w w' : World} {lo hi B : Nat} {v : Value} {xss : List (List Int)} {us : Nat → Value} (h : OwnS w lo hi v xss us) (hb : Below B w w') (hB : hi ≤ B) : OwnS w' lo hi v xss us :=
  h.same (Nat.le_trans h.size hb.size) fun k _ h2 => hb.block k (by omega)
theorem OwnS.dn {w w' : World} {lo hi : Nat} {v : Value} {xss : List (List Int)} {us : Nat → Value} (h : OwnS w lo hi v xss us) (hd : Dn w w') : OwnS w' lo hi v xss us :=
  h.same (by rw [hd.heap]; exact h.size) fun k _ _ => by rw [hd.heap]
theorem OwnS.at {w : World} {lo hi : Nat} {v : Value} {xss : List (List Int)} {us : Nat → Value} (h : OwnS w lo hi v xss us) : ∃ ao cap, v = .slice ao xss.length cap ∧ ∀ k, k < xss.length → ∃ b, ao = some ⟨b, 0, none⟩ ∧ b < w.heap.size ∧ w.cell? ⟨b, k, none⟩ = some (us k) := by
  rcases h.row.2 with ⟨rfl, h2⟩ | ⟨g, cap, cur, rfl, _⟩
  · rw [h2]
    exact ⟨none, 0, rfl, fun k hk => absurd hk (by omega)⟩
  · refine ⟨_, cap, rfl, fun k hk => ⟨g, rfl, (h.row.lt g rfl).2, ?_⟩⟩
    rw [h.row.cellAt k (by omega), List.getElem?_map, List.getElem?_range hk]
    rfl
theorem OwnS.rd {w : World} {lo hi : Nat} {v : Value} {xss : List (List Int)} {us : Nat → Value} (h : OwnS w lo hi v xss us) : ∃ ao cap, v = .slice ao xss.length cap ∧ RdS w ao xss := by
  obtain ⟨ao, cap, rfl, hx⟩ := h.at
  refine ⟨ao, cap, rfl, fun k xs hk => ?_⟩
  obtain ⟨b, rfl, hb, hc⟩ := hx k (List.getElem?_eq_some_iff.1 hk).1
  obtain ⟨ak, ck, he, hr⟩ := (h.rows k xs hk).rd
  exact ⟨b, 0, ak, ck, rfl, hb, by rw [Nat.zero_add, hc, he], hr⟩

end Go.Proofs.Ytnmgoeklcmoalab

namespace Go.Proofs.Ytnmgoeklcmoalab
open Go.RowKit

theorem setS (us : Nat → Value) (z v : Value) (n k : Nat) (hk : k < n) :
    ((List.range k).map us ++ List.replicate (n - k) z).set k v = (List.range (k + 1)).map (fun j => if j = k then v else us j) ++ List.replicate (n - (k + 1)) z := by
  obtain ⟨m, hm⟩ : ∃ m, n - k = m + 1 := ⟨n - k - 1, by omega⟩
  have hm2 : n - (k + 1) = m := by omega
  have h0 : k - ((List.range k).map us).length = 0 := by simp
  rw [hm, hm2, List.set_append_right _ _ (by simp), h0, List.replicate_succ, List.set_cons_zero, List.range_succ, List.map_append, List.append_assoc]
  congr 1
  · apply List.map_congr_left
    intro j hj
    have := List.mem_range.1 hj
    rw [if_neg (by omega)]
  · simp

end Go.Proofs.Ytnmgoeklcmoalab
