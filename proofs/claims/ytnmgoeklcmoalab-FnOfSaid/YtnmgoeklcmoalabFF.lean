/-
  The model's and the program's RelOf; for lists of lists of at most 2^20 numbers in all.
-/
import Derived.Test.YtnmgoeklcmoalabFE
namespace Go.Proofs.Ytnmgoeklcmoalab
open Go.RowKit

/-- a pair of points -/
def okP (n : Nat) (p : List Int) : Bool := decide (p.length = 2) && ptB (rowAt p 0) n && ptB (rowAt p 1) n
def addP (zs p : List Int) : List Int := addPair zs (rowAt p 0).toNat (rowAt p 1).toNat
def ofL (n : Nat) (xss : List (List Int)) : List Int := xss.foldl addP (List.replicate n 0)
theorem ofL_snoc (n : Nat) (xss : List (List Int)) (p : List Int) : ofL n (xss ++ [p]) = addP (ofL n xss) p := by
  unfold ofL
  rw [List.foldl_append]
  rfl
theorem ofL_len (n : Nat) (xss : List (List Int)) : (ofL n xss).length = n := by
  have h : ∀ (l : List (List Int)) (zs : List Int), (l.foldl addP zs).length = zs.length := by
    intro l
    induction l with
    | nil => intro zs; rfl
    | cons p r ih => intro zs; rw [List.foldl_cons, ih]; exact addPair_len _ _ _
  unfold ofL
  rw [h]
  simp
theorem ofL16 (n : Nat) (xss : List (List Int)) (h : xss.all (okP n) = true) (h4 : n ≤ 4) : ∀ i, ∃ z : Fin 16, rowAt (ofL n xss) i = (z.val : Int) := by
  have key : ∀ (l : List (List Int)) (zs : List Int), l.all (okP n) = true → zs.length = n → (∀ i, ∃ z : Fin 16, rowAt zs i = (z.val : Int)) → ∀ i, ∃ z : Fin 16, rowAt (l.foldl addP zs) i = (z.val : Int) := by
    intro l
    induction l with
    | nil => intro zs _ _ hz; exact hz
    | cons p r ih =>
      intro zs hl hn hz
      rw [List.all_cons, Bool.and_eq_true] at hl
      rw [List.foldl_cons]
      have hp := hl.1
      unfold okP at hp
      rw [Bool.and_eq_true, Bool.and_eq_true] at hp
      have a0 : 0 ≤ rowAt p 0 ∧ rowAt p 0 < n := of_decide_eq_true hp.1.2
      have a1 : 0 ≤ rowAt p 1 ∧ rowAt p 1 < n := of_decide_eq_true hp.2
      refine ih _ hl.2 (by show (addPair _ _ _).length = n; rw [addPair_len, hn]) fun i => ?_
      show ∃ z : Fin 16, rowAt (addPair zs (rowAt p 0).toNat (rowAt p 1).toNat) i = (z.val : Int)
      rw [addPair_at zs _ _ i (by omega)]
      split
      · obtain ⟨z, hz2⟩ := hz (rowAt p 0).toNat
        rw [hz2]
        exact or16 z ⟨(rowAt p 1).toNat, by omega⟩
      · exact hz i
  exact key xss _ h (by simp) (fun i => ⟨0, zeros_at n i⟩)
theorem all_bad {n : Nat} {xss : List (List Int)} {k : Nat} {p : List Int} (h : xss[k]? = some p) (hb : okP n p = false) : xss.all (okP n) = false := by
  rw [List.all_eq_false]
  exact ⟨p, List.mem_of_getElem? h, by simp [hb]⟩
theorem all_step {n : Nat} {xss : List (List Int)} {k : Nat} {p : List Int} (h : xss[k]? = some p) (hb : okP n p = true) (ha : (xss.take k).all (okP n) = true) : (xss.take (k + 1)).all (okP n) = true := by
  rw [List.take_add_one, h]
  simp [ha, hb]
theorem ofL_step {n : Nat} {xss : List (List Int)} {k : Nat} {p : List Int} (h : xss[k]? = some p) : ofL n (xss.take (k + 1)) = addP (ofL n (xss.take k)) p := by
  rw [List.take_add_one, h]
  exact ofL_snoc _ _ _
theorem ptB_eq (x : Int) (n : Nat) : inB x 0 ((n : Int) - 1) = ptB x n := by
  unfold inB ptB
  by_cases h : 0 ≤ x ∧ x < n
  · rw [decide_eq_true h, decide_eq_true (by omega)]
  · rw [decide_eq_false h, decide_eq_false (by omega)]
theorem pt_wrapF (k : Nat) (h : k < 4) : wrap64 (2 ^ k) = pt k := by
  rcases (by omega : k = 0 ∨ k = 1 ∨ k = 2 ∨ k = 3) with rfl | rfl | rfl | rfl <;> decide +kernel
theorem two_of {p : List Int} (h : p.length = 2) : ∃ x y, p = [x, y] := by
  match p, h with
  | [x, y], _ => exact ⟨x, y, rfl⟩

set_option maxRecDepth 100000 in
set_option maxHeartbeats 8000000 in
theorem specOf_in (ao : Option Addr) (cap n : Nat) (xss : List (List Int)) (w : World) (h1 : 1 ≤ n) (h4 : n ≤ 4) (hn : xss.length ≤ 1048576) (hr : RdS w ao xss) :
    Calls Try.prog 22 #[.int .i64 n, .slice ao xss.length cap] w (Gave w (ifR (xss.all (okP n)) (ofL n xss)) (xss.all (okP n))) := by
  obtain ⟨i0, hi, hz0, hz1, hz2⟩ := info_parts Try.info3
  have hin : inB (n : Int) 1 4 = true := inB_yes (by omega) (by omega)
  have HR := Lib.hid hr
  clear hr
  go_enter Try.func22, Try.ntmps22
  go_wp2_with (first | (go_at_call 54; refine (l6In_any _ _ _ _).mono ?_; rintro e w' ⟨rfl, rfl⟩) | (at_make; refine wpList_make_full _ rfl _ _ 23 rfl w.heap.size 3 i0 (.int .i64 0) 1 Try.underlying23 hi hz0 hz1 _ _ _ _ n rfl rfl rfl rfl ?c1 ?c2 ?c3 ?_))
  case c1 => rw [hz2]; omega
  case c2 => unfold maxLen; omega
  case c3 => exact Nat.le_refl _
  intro w1 hown hgrow
  have hB : Below w.heap.size w w1 := (Below.refl _ _).grown hgrow (Nat.le_refl _) (by simp)
  rw [toList_madeCells_one] at hown
  have hown0 : w1.ownsRow w.heap.size 3 1 (.slice (some ⟨w.heap.size, 0, none⟩) n n) n ((ofL n (xss.take 0)).map (Value.int .i64)) := by
    have e : (ofL n (xss.take 0)).map (Value.int .i64) = List.replicate n (.int .i64 0) := by simp [ofL]
    rw [e]
    exact hown
  clear hgrow hown hin
  go_wp2
  go_loopw [7, 8] (fun i _ wr => ∃ k : Nat, k ≤ xss.length ∧ i = .int .i64 k ∧ (xss.take k).all (okP n) = true ∧ wr.ownsRow w.heap.size 3 1 (.slice (some ⟨w.heap.size, 0, none⟩) n n) n ((ofL n (xss.take k)).map (Value.int .i64)) ∧ Below w.heap.size w wr)
    (fun i _ _ => xss.length - (intOf i).toNat)
  case atStart => exact ⟨0, Nat.zero_le _, rfl, rfl, hown0, hB⟩
  case round =>
    clear hown0 hB
    obtain ⟨k, hk, rfl, hall, ho, hB⟩ := hrel
    by_cases hlt : k < xss.length
    · obtain ⟨p, hp⟩ : ∃ p, xss[k]? = some p := ⟨_, List.getElem?_eq_getElem hlt⟩
      obtain ⟨b, off, ak, ck, rfl, hbl, hc1, hrd⟩ := (HR.out.below hB) k p hp
      have hi1 : ((k : Nat) : Int) < (xss.length : Int) := by omega
      have HP := Lib.hid (And.intro hp hall)
      by_cases h2 : p.length = 2
      · obtain ⟨x, y, rfl⟩ := two_of h2
        obtain ⟨b2, o2, rfl, hb2, hcx⟩ := hrd 0 x rfl
        obtain ⟨b3, o3, he, hb3, hcy⟩ := hrd 1 y rfl
        simp only [Option.some.injEq, Addr.mk.injEq, and_true] at he
        obtain ⟨rfl, rfl⟩ := he
        simp only [Nat.add_zero] at hcx
        clear hrd hp hall h2
        have hl2 : (([x, y] : List Int).length : Int) = 2 := rfl
        simp only [List.length_cons, List.length_nil, Nat.zero_add, Nat.reduceAdd] at hc1
        cases hq1 : ptB x n with
        | false =>
          have bx : inB x 0 ((n : Int) - 1) = false := by rw [ptB_eq]; exact hq1
          have hbad : okP n [x, y] = false := by
            show (decide (([x, y] : List Int).length = 2) && ptB x n && ptB y n) = false
            rw [hq1]
            simp
          have HF := Lib.hid (all_bad HP.out.1 hbad)
          clear hq1 hbad
          go_wp2_with (go_at_call 54; refine (l6In_any _ _ _ _).mono ?_; rintro e w' ⟨rfl, rfl⟩)
          go_ret2
          rw [HF.out]
          exact ⟨_, rfl, own_mono (row_lit0 _) hB.size, hB.alloc hB.size _⟩
        | true =>
          have bx : inB x 0 ((n : Int) - 1) = true := by rw [ptB_eq]; exact hq1
          cases hq2 : ptB y n with
          | false =>
            have bY : inB y 0 ((n : Int) - 1) = false := by rw [ptB_eq]; exact hq2
            have hbad : okP n [x, y] = false := by
              show (decide (([x, y] : List Int).length = 2) && ptB x n && ptB y n) = false
              rw [hq2]
              simp
            have HF := Lib.hid (all_bad HP.out.1 hbad)
            clear hq1 hq2 hbad
            go_wp2_with (go_at_call 54; refine (l6In_any _ _ _ _).mono ?_; rintro e w' ⟨rfl, rfl⟩)
            go_ret2
            rw [HF.out]
            exact ⟨_, rfl, own_mono (row_lit0 _) hB.size, hB.alloc hB.size _⟩
          | true =>
            have bY : inB y 0 ((n : Int) - 1) = true := by rw [ptB_eq]; exact hq2
            have hgood : okP n [x, y] = true := by
              show (decide (([x, y] : List Int).length = 2) && ptB x n && ptB y n) = true
              rw [hq1, hq2]
              rfl
            have hx : 0 ≤ x ∧ x < n := of_decide_eq_true hq1
            have hy : 0 ≤ y ∧ y < n := of_decide_eq_true hq2
            obtain ⟨i, rfl⟩ : ∃ i : Nat, x = (i : Int) := ⟨x.toNat, by omega⟩
            obtain ⟨j, rfl⟩ : ∃ j : Nat, y = (j : Int) := ⟨y.toNat, by omega⟩
            have hall2 := all_step HP.out.1 hgood HP.out.2
            have hstep := ofL_step (n := n) HP.out.1
            have hlen := ofL_len n (xss.take k)
            obtain ⟨z, hz⟩ := ofL16 n (xss.take k) HP.out.2 h4 i
            have hc2 := ho.cellAt i (by omega)
            have hf2 := ho.frozenAt i
            have hzk : ((ofL n (xss.take k)).map (Value.int .i64))[i]? = some (.int .i64 (z.val : Int)) := by
              rw [List.getElem?_map, rowAt_get (by rw [hlen]; omega), hz]
              rfl
            rw [hzk] at hc2
            have hpt := pt_wrapF j (by omega)
            have hin1 : (i : Int) < (n : Int) := hx.2
            have hst := (ho.stored i (.int .i64 (bits .or .i64 (z.val : Int) (wrap64 (2 ^ j))))).1
            have hfin : ((ofL n (xss.take k)).map (Value.int .i64)).set i (.int .i64 (bits .or .i64 (z.val : Int) (wrap64 (2 ^ j)))) = (ofL n (xss.take (k + 1))).map (Value.int .i64) := by
              rw [← List.map_set, hstep, hpt, ← hz]
              rfl
            rw [hfin] at hst
            have hj4 : j < 4 := by omega
            have HS := Lib.hid (And.intro hall2 (And.intro hst hpt))
            clear hall2 hst hfin hstep hz hzk hgood hq1 hq2 hx hy hpt hlen
            go_wp2_with (go_at_call 54; refine (l6In_any _ _ _ _).mono ?_; rintro e w' ⟨rfl, rfl⟩)
            go_region
            all_goals
              go_wp2
              go_roundw
              case rel => exact ⟨k + 1, by omega, by go_num, HS.out.1, (by first | exact HS.out.2.1.drew | (rw [show min j 64 = j by omega]; exact HS.out.2.1.drew)), hB.drew.setCell (Nat.le_refl _) _⟩
              case measure => simp [intOf]; omega
      · have hne : ((p.length : Int) != 2) = true := by simp; omega
        have hbad : okP n p = false := by
          unfold okP
          rw [decide_eq_false h2]
          rfl
        have HF := Lib.hid (all_bad HP.out.1 hbad)
        clear hbad hrd hp hall
        go_wp2
        go_ret2
        rw [HF.out]
        exact ⟨_, rfl, own_mono (row_lit0 _) hB.size, hB.alloc hB.size _⟩
    · obtain rfl : k = xss.length := by omega
      have hall2 : xss.all (okP n) = true := by rw [List.take_length] at hall; exact hall
      rw [List.take_length] at ho
      have HA := Lib.hid hall2
      clear hall hall2
      go_wp2
      go_ret2
      rw [HA.out]
      exact ⟨_, rfl, by rw [show (ifR true (ofL n xss)).length = n from ofL_len n xss]; exact ho, hB⟩

set_option maxHeartbeats 1000000 in
theorem specRelOf_any (ao : Option Addr) (cap : Nat) (n : Int) (xss : List (List Int)) (w : World) (hn : xss.length ≤ 1048576) (hr : RdS w ao xss) :
    Calls Try.prog 22 #[.int .i64 n, .slice ao xss.length cap] w (Gave w (ifR (inB n 1 4 && xss.all (okP n.toNat)) (ofL n.toNat xss)) (inB n 1 4 && xss.all (okP n.toNat))) := by
  cases hb : inB n 1 4 with
  | false =>
    have HB := Lib.hid hb
    clear hr
    go_enter Try.func22, Try.ntmps22
    go_wp2_with (go_at_call 54; refine (l6In_any _ _ _ _).mono ?_; rintro e w' ⟨rfl, rfl⟩)
    go_ret2
    exact ⟨_, rfl, row_lit0 w, below_one _ _⟩
  | true =>
    have h14 : 1 ≤ n ∧ n ≤ 4 := of_decide_eq_true hb
    obtain ⟨m, rfl⟩ : ∃ m : Nat, n = (m : Int) := ⟨n.toNat, by omega⟩
    rw [Bool.true_and, Int.toNat_natCast]
    exact specOf_in ao cap m xss w (by omega) (by omega) hn hr
end Go.Proofs.Ytnmgoeklcmoalab
