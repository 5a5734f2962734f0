/-
  Relations made of rectangles: the program's withRectangle; the model's RectOf; for lists of lists of at most 2^20 numbers in all.
-/
import Derived.Test.YtnmgoeklcmoalabOBA
import Derived.Test.YtnmgoeklcmoalabFE
namespace Go.Proofs.Ytnmgoeklcmoalab
open Go.RowKit

/-- block b holds a pair of sets -/
def PrAt (w : World) (b : Nat) (s t : Int) : Prop := w.heap[b]? = some (.cells #[.int .i64 s, .int .i64 t] 55 (0, 0))
theorem PrAt.new (w : World) (s t : Int) : PrAt (w.alloc (.cells #[.int .i64 s, .int .i64 t] 55)) w.heap.size s t := heap_alloc_new w _
theorem PrAt.lt {w : World} {b : Nat} {s t : Int} (h : PrAt w b s t) : b < w.heap.size := (Array.getElem?_eq_some_iff.1 h).1
theorem PrAt.alloc {w : World} {b : Nat} {s t : Int} (h : PrAt w b s t) (o : Obj) : PrAt (w.alloc o) b s t := (Below.heap_alloc w o b h.lt).trans h
theorem PrAt.drew {w : World} {b : Nat} {s t : Int} (h : PrAt w b s t) : PrAt w.drew b s t := h
theorem PrAt.below {w w' : World} {B b : Nat} {s t : Int} (h : PrAt w b s t) (hb : Below B w w') (hlt : b < B) : PrAt w' b s t := (hb.block b hlt).trans h
theorem PrAt.other {w : World} {b : Nat} {s t : Int} (h : PrAt w b s t) {p : Addr} (hp : b ≠ p.block) (u : Value) : PrAt (w.setCell p u) b s t := (Below.heap_setCell w p u b hp).trans h
theorem PrAt.cell0 {w : World} {b : Nat} {s t : Int} (h : PrAt w b s t) : w.cell? ⟨b, 0, none⟩ = some (.int .i64 s) := by
  unfold PrAt at h
  simp [World.cell?, h]
theorem PrAt.cell1 {w : World} {b : Nat} {s t : Int} (h : PrAt w b s t) : w.cell? ⟨b, 1, none⟩ = some (.int .i64 t) := by
  unfold PrAt at h
  simp [World.cell?, h]
theorem PrAt.free {w : World} {b : Nat} {s t : Int} (h : PrAt w b s t) (j : Nat) : w.frozen? ⟨b, j, none⟩ = false := by
  unfold PrAt at h
  simp [World.frozen?, h]

/-! a rectangle put to the rows -/
/-- a rectangle put to the first k rows -/
def rectTo (zs : List Int) (s t : Int) : Nat → List Int
  | 0 => zs
  | k + 1 => if hasB s k then (rectTo zs s t k).set k (bits .or .i64 (rowAt (rectTo zs s t k) k) t) else rectTo zs s t k
theorem rect_yes {zs : List Int} {s t : Int} {k : Nat} (h : hasB s k = true) : rectTo zs s t (k + 1) = (rectTo zs s t k).set k (bits .or .i64 (rowAt (rectTo zs s t k) k) t) := by
  show (if hasB s k then _ else _) = _
  rw [h]
  rfl
theorem rect_no {zs : List Int} {s t : Int} {k : Nat} (h : hasB s k = false) : rectTo zs s t (k + 1) = rectTo zs s t k := by
  show (if hasB s k then _ else _) = _
  rw [h]
  rfl
theorem rect_len (zs : List Int) (s t : Int) (k : Nat) : (rectTo zs s t k).length = zs.length := by
  induction k with
  | zero => rfl
  | succ k ih =>
    show (if hasB s k then (rectTo zs s t k).set k (bits .or .i64 (rowAt (rectTo zs s t k) k) t) else rectTo zs s t k).length = zs.length
    split
    · rw [List.length_set, ih]
    · exact ih

set_option maxHeartbeats 2000000 in
theorem withRectangle_any (zs : List Int) (s t : Int) (w : World) (h4 : zs.length ≤ 4) :
    Calls Try.prog 39 #[relOf zs, .agg #[.int .i64 s, .int .i64 t]] w fun e w' => e = .returned (relOf (rectTo zs s t zs.length)) ∧ Below w.heap.size w w' := by
  have hr0 := ((RelAt.new w zs).alloc (.cells #[.int .i64 s, .int .i64 t] 55)).alloc (.cells #[.int .i64 0, .int .i64 0, .int .i64 0, .int .i64 0, .int .i64 0] 46)
  have hs0 := (PrAt.new (w.alloc (.cells #[.int .i64 zs.length, .int .i64 (rowAt zs 0), .int .i64 (rowAt zs 1), .int .i64 (rowAt zs 2), .int .i64 (rowAt zs 3)] 46)) s t).alloc (.cells #[.int .i64 0, .int .i64 0, .int .i64 0, .int .i64 0, .int .i64 0] 46)
  have ht0 := rel_zero ((w.alloc (.cells #[.int .i64 zs.length, .int .i64 (rowAt zs 0), .int .i64 (rowAt zs 1), .int .i64 (rowAt zs 2), .int .i64 (rowAt zs 3)] 46)).alloc (.cells #[.int .i64 s, .int .i64 t] 55))
  simp only [World.size_alloc] at hs0 ht0
  have B0 := below_three w (.cells #[.int .i64 zs.length, .int .i64 (rowAt zs 0), .int .i64 (rowAt zs 1), .int .i64 (rowAt zs 2), .int .i64 (rowAt zs 3)] 46) (.cells #[.int .i64 s, .int .i64 t] 55) (.cells #[.int .i64 0, .int .i64 0, .int .i64 0, .int .i64 0, .int .i64 0] 46)
  have hc0 := hr0.cell0
  go_enter Try.func39, Try.ntmps39
  go_wp2
  go_loopw [8, 5] (fun i _ wr => ∃ k : Nat, k ≤ zs.length ∧ i = .int .i64 k ∧ RelAt wr w.heap.size (rectTo zs s t k) ∧ PrAt wr (w.heap.size + 1) s t ∧ RelAt wr (w.heap.size + 1 + 1) [] ∧ Below w.heap.size w wr)
    (fun i _ _ => zs.length - (intOf i).toNat)
  case atStart => exact ⟨0, Nat.zero_le _, rfl, hr0, hs0, ht0, B0⟩
  case round =>
    obtain ⟨k, hk, rfl, hr, hs, hrz, hb⟩ := hrel
    clear hr0 hc0 hs0 ht0 B0
    have hl := rect_len zs s t k
    by_cases hlt : k < zs.length
    · have hc1 := hr.row k (by omega)
      have hd0 := hs.cell0
      have hd1 := hs.cell1
      have hq : (k : Int) < 4 := by omega
      have hf := hr.free (1 + k)
      cases hz : hasB s k with
      | false =>
        have HST := Lib.hid (rect_no (zs := zs) (t := t) hz)
        have HL := Lib.hid hl
        clear hl
        go_wp2_with (go_at_call 67; refine (has_any _ k (by omega) _).mono ?_; rintro e w2 ⟨rfl, rfl⟩)
        go_roundw
        case rel => exact ⟨k + 1, by omega, by go_num, by rw [HST.out]; exact hr, hs, hrz, hb⟩
        case measure => simp [intOf]; omega
      | true =>
        have hst := rect_yes (zs := zs) (t := t) hz
        have hset := hr.set k (by rw [hl]; exact hlt) (by omega) (bits .or .i64 (rowAt (rectTo zs s t k) k) t)
        have HST := Lib.hid (And.intro hst hset)
        clear hst hset hl
        obtain ⟨Z, hZ⟩ : ∃ Z, rectTo zs s t k = Z := ⟨_, rfl⟩
        rw [hZ] at hr hc1 HST
        clear hZ
        go_wp2_with (go_at_call 67; refine (has_any _ k (by omega) _).mono ?_; rintro e w2 ⟨rfl, rfl⟩)
        go_region
        all_goals
          go_wp2
          go_roundw
          case rel => exact ⟨k + 1, by omega, by go_num, by rw [HST.out.1]; exact HST.out.2, hs.other (p := ⟨w.heap.size, 1 + k, none⟩) (by simp) _, hrz.other (p := ⟨w.heap.size, 1 + k, none⟩) (by simp; omega) _, hb.drew.setCell (Nat.le_refl _) _⟩
          case measure => simp [intOf]; omega
    · obtain rfl : k = zs.length := by omega
      obtain ⟨Z, hZ⟩ : ∃ Z, rectTo zs s t zs.length = Z := ⟨_, rfl⟩
      rw [hZ] at hr hl
      have HZ := Lib.hid hZ
      have hcn := hr.cell0
      rw [hl] at hcn
      have hc1 := hr.cell1
      have hc2 := hr.cell2
      have hc3 := hr.cell3
      have hc4 := hr.cell4
      have hz0 := hrz.cell0
      have hz1 := hrz.cell1
      have hz2 := hrz.cell2
      have hz3 := hrz.cell3
      have hz4 := hrz.cell4
      have hy0 := hrz.free 0
      have hy1 := hrz.free 1
      have hy2 := hrz.free 2
      have hy3 := hrz.free 3
      have hy4 := hrz.free 4
      have HL := Lib.hid hl
      clear hZ hl
      go_wp2
      refine bodyPost_ret (v := relOf Z) (by simp [results, Try.results39, go_sem, hz0, hz1, hz2, hz3, hz4, HL.out]) rfl ⟨by rw [HZ.out], ?_⟩
      repeat (first | exact hb | refine Below.setCell ?_ (by simp; omega) _)

/-! rectangles as lists -/
def okR (n : Nat) (p : List Int) : Bool := decide (p.length = 2) && rowIn n (rowAt p 0) && rowIn n (rowAt p 1)
def addR (n : Nat) (zs p : List Int) : List Int := rectTo zs (rowAt p 0) (rowAt p 1) n
def rofL (n : Nat) (xss : List (List Int)) : List Int := xss.foldl (addR n) (List.replicate n 0)
theorem rof_len (n : Nat) (xss : List (List Int)) : (rofL n xss).length = n := by
  have h : ∀ (l : List (List Int)) (zs : List Int), (l.foldl (addR n) zs).length = zs.length := by
    intro l
    induction l with
    | nil => intro zs; rfl
    | cons p r ih => intro zs; rw [List.foldl_cons, ih]; exact rect_len _ _ _ _
  unfold rofL
  rw [h]
  simp
theorem rof_bad {n : Nat} {xss : List (List Int)} {k : Nat} {p : List Int} (h : xss[k]? = some p) (hb : okR n p = false) : xss.all (okR n) = false := by
  rw [List.all_eq_false]
  exact ⟨p, List.mem_of_getElem? h, by simp [hb]⟩
theorem rof_all {n : Nat} {xss : List (List Int)} {k : Nat} {p : List Int} (h : xss[k]? = some p) (hb : okR n p = true) (ha : (xss.take k).all (okR n) = true) : (xss.take (k + 1)).all (okR n) = true := by
  rw [List.take_add_one, h]
  simp [ha, hb]
theorem rof_step {n : Nat} {xss : List (List Int)} {k : Nat} {p : List Int} (h : xss[k]? = some p) : rofL n (xss.take (k + 1)) = addR n (rofL n (xss.take k)) p := by
  rw [List.take_add_one, h]
  unfold rofL
  rw [Option.toList_some, List.foldl_append]
  rfl
theorem pairOf {p : List Int} (h : p.length = 2) : ∃ x y, p = [x, y] := by
  match p, h with
  | [x, y], _ => exact ⟨x, y, rfl⟩

set_option maxRecDepth 100000 in
set_option maxHeartbeats 8000000 in
theorem specRof_in (ao : Option Addr) (cap n : Nat) (xss : List (List Int)) (w : World) (h1 : 1 ≤ n) (h4 : n ≤ 4) (hn : xss.length ≤ 1048576) (hr : RdS w ao xss) :
    Calls Try.prog 26 #[.int .i64 n, .slice ao xss.length cap] w (Gave w (ifR (xss.all (okR n)) (rofL n xss)) (xss.all (okR n))) := by
  obtain ⟨i0, hi, hz0, hz1, hz2⟩ := info_parts Try.info3
  have hin : inB (n : Int) 1 4 = true := inB_yes (by omega) (by omega)
  have HR := Lib.hid hr
  have HT := Lib.hid (fun x => row_top n x h1 h4)
  clear hr
  go_enter Try.func26, Try.ntmps26
  go_wp2_with (first | (go_at_call 54; refine (l6In_any _ _ _ _).mono ?_; rintro e w' ⟨rfl, rfl⟩) | (at_make; refine wpList_make_full _ rfl _ _ 23 rfl w.heap.size 3 i0 (.int .i64 0) 1 Try.underlying23 hi hz0 hz1 _ _ _ _ n rfl rfl rfl rfl ?c1 ?c2 ?c3 ?_))
  case c1 => rw [hz2]; omega
  case c2 => unfold maxLen; omega
  case c3 => exact Nat.le_refl _
  intro w1 hown hgrow
  have hB : Below w.heap.size w w1 := (Below.refl _ _).grown hgrow (Nat.le_refl _) (by simp)
  rw [toList_madeCells_one] at hown
  have hown0 : w1.ownsRow w.heap.size 3 1 (.slice (some ⟨w.heap.size, 0, none⟩) n n) n ((rofL n (xss.take 0)).map (Value.int .i64)) := by
    have e : (rofL n (xss.take 0)).map (Value.int .i64) = List.replicate n (.int .i64 0) := by simp [rofL]
    rw [e]
    exact hown
  clear hgrow hown hin
  go_wp2
  go_loopw [7, 8] (fun i _ wr => ∃ k : Nat, k ≤ xss.length ∧ i = .int .i64 k ∧ (xss.take k).all (okR n) = true ∧ wr.ownsRow w.heap.size 3 1 (.slice (some ⟨w.heap.size, 0, none⟩) n n) n ((rofL n (xss.take k)).map (Value.int .i64)) ∧ Below w.heap.size w wr)
    (fun i _ _ => xss.length - (intOf i).toNat)
  case atStart => exact ⟨0, Nat.zero_le _, rfl, rfl, hown0, hB⟩
  case round =>
    clear hown0 hB
    obtain ⟨k, hk, rfl, hall, ho, hB⟩ := hrel
    obtain ⟨wo, rfl⟩ : ∃ wo : World, wo = wr := ⟨_, rfl⟩
    by_cases hlt : k < xss.length
    · obtain ⟨p, hp⟩ : ∃ p, xss[k]? = some p := ⟨_, List.getElem?_eq_getElem hlt⟩
      obtain ⟨b, off, ak, ck, rfl, hbl, hc1, hrd⟩ := (HR.out.below hB) k p hp
      have hi1 : ((k : Nat) : Int) < (xss.length : Int) := by omega
      have HP := Lib.hid (And.intro hp hall)
      by_cases h2 : p.length = 2
      · obtain ⟨x, y, rfl⟩ := pairOf h2
        obtain ⟨b2, o2, rfl, hb2, hcx⟩ := hrd 0 x rfl
        obtain ⟨b3, o3, he, hb3, hcy⟩ := hrd 1 y rfl
        simp only [Option.some.injEq, Addr.mk.injEq, and_true] at he
        obtain ⟨rfl, rfl⟩ := he
        simp only [Nat.add_zero] at hcx
        clear hrd hp hall h2
        have hl2 : (([x, y] : List Int).length : Int) = 2 := rfl
        simp only [List.length_cons, List.length_nil, Nat.zero_add, Nat.reduceAdd] at hc1
        cases hq1 : rowIn n x with
        | false =>
          have bx : inB x 0 (wrap64 (wrap64 (2 ^ n) - 1)) = false := by rw [HT.out]; exact hq1
          have hbad : okR n [x, y] = false := by
            show (decide (([x, y] : List Int).length = 2) && rowIn n x && rowIn n y) = false
            rw [hq1]
            simp
          have HF := Lib.hid (rof_bad HP.out.1 hbad)
          clear hq1 hbad
          go_wp2
          go_quiet ((go_at_call 54; exact quiet_eq (l6In_any _ _ _ _)))
          go_wp2
          go_ret2
          rw [HF.out]
          exact ⟨_, rfl, own_mono (row_lit0 _) hB.size, (below_drewN hB nq).alloc hB.size _⟩
        | true =>
          have bx : inB x 0 (wrap64 (wrap64 (2 ^ n) - 1)) = true := by rw [HT.out]; exact hq1
          cases hq2 : rowIn n y with
          | false =>
            have bY : inB y 0 (wrap64 (wrap64 (2 ^ n) - 1)) = false := by rw [HT.out]; exact hq2
            have hbad : okR n [x, y] = false := by
              show (decide (([x, y] : List Int).length = 2) && rowIn n x && rowIn n y) = false
              rw [hq2]
              simp
            have HF := Lib.hid (rof_bad HP.out.1 hbad)
            clear hq1 hq2 hbad
            go_wp2
            go_quiet ((go_at_call 54; exact quiet_eq (l6In_any _ _ _ _)))
            go_wp2
            go_ret2
            rw [HF.out]
            exact ⟨_, rfl, own_mono (row_lit0 _) hB.size, (below_drewN hB nq).alloc hB.size _⟩
          | true =>
            have bY : inB y 0 (wrap64 (wrap64 (2 ^ n) - 1)) = true := by rw [HT.out]; exact hq2
            have hgood : okR n [x, y] = true := by
              show (decide (([x, y] : List Int).length = 2) && rowIn n x && rowIn n y) = true
              rw [hq1, hq2]
              rfl
            obtain ⟨u, rfl, _⟩ := row_fin h4 hq1
            have hall2 := rof_all HP.out.1 hgood HP.out.2
            have hstep := rof_step (n := n) HP.out.1
            have hlen := rof_len n (xss.take k)
            obtain ⟨Z, hZ⟩ : ∃ Z, rofL n (xss.take k) = Z := ⟨_, rfl⟩
            rw [hZ] at ho hstep hlen
            have hadd : rofL n (xss.take (k + 1)) = rectTo Z (u.val : Int) y n := hstep
            have HS := Lib.hid (And.intro hall2 (And.intro hadd hlen))
            have hO0 : wo.ownsRow w.heap.size 3 1 (.slice (some ⟨w.heap.size, 0, none⟩) n n) n ((rectTo Z (u.val : Int) y 0).map (Value.int .i64)) := ho
            have HC := Lib.hid (And.intro hc1 (And.intro hcx hcy))
            clear hall2 hadd hstep hgood hq1 hq2 hlen hZ ho
            go_wp2
            go_quiet ((go_at_call 54; exact quiet_eq (l6In_any _ _ _ _)))
            go_wp2
            clear hc1 hcx hcy bx bY
            go_loopw [8] (fun j wr => ∃ i : Nat, i ≤ n ∧ j = .int .i64 i ∧ wr.ownsRow w.heap.size 3 1 (.slice (some ⟨w.heap.size, 0, none⟩) n n) n ((rectTo Z (u.val : Int) y i).map (Value.int .i64)) ∧ Below w.heap.size w wr)
              (fun j _ => n - (intOf j).toNat)
            case atStart => exact ⟨0, Nat.zero_le _, rfl, (Dn.drewN wo nq).row hO0, below_drewN hB nq⟩
            case round =>
              clear hO0 HC hb2 hb3 hbl hB
              obtain ⟨i, hi2, rfl, ho, hB⟩ := hrel
              by_cases hli : i < n
              · obtain ⟨b', off', ak', ck', hae, hbl, hc1, hrd⟩ := (HR.out.below hB) k [(u.val : Int), y] HP.out.1
                simp only [Option.some.injEq, Addr.mk.injEq, and_true] at hae
                obtain ⟨rfl, rfl⟩ := hae
                obtain ⟨b2', o2', rfl, hb2, hcx⟩ := hrd 0 (u.val : Int) rfl
                obtain ⟨b3', o3', he, hb3, hcy⟩ := hrd 1 y rfl
                simp only [Option.some.injEq, Addr.mk.injEq, and_true] at he
                obtain ⟨rfl, rfl⟩ := he
                simp only [Nat.add_zero] at hcx
                simp only [List.length_cons, List.length_nil, Nat.zero_add, Nat.reduceAdd] at hc1
                clear hrd
                have hi3 : ((i : Nat) : Int) < (n : Int) := by omega
                have hbb := b_bit u ⟨i, by omega⟩
                dsimp only at hbb
                have hlz : (rectTo Z (u.val : Int) y i).length = n := by rw [rect_len]; exact HS.out.2.2
                cases hb : bitB (u.val : Int) i with
                | false =>
                  rw [hb] at hbb
                  have HST := Lib.hid (rect_no (zs := Z) (t := y) hbb.symm)
                  have hb4 : (bits .and .i64 ((u.val : Int) / 2 ^ i) 1 == 1) = false := hb
                  clear hbb hb hlz
                  go_wp2
                  go_roundw
                  case rel => exact ⟨i + 1, by omega, by go_num, by rw [HST.out]; exact ho, hB⟩
                  case measure => simp [intOf]; omega
                | true =>
                  rw [hb] at hbb
                  have hst := rect_yes (zs := Z) (t := y) hbb.symm
                  have hb4 : (bits .and .i64 ((u.val : Int) / 2 ^ i) 1 == 1) = true := hb
                  obtain ⟨Y, hY⟩ : ∃ Y, rectTo Z (u.val : Int) y i = Y := ⟨_, rfl⟩
                  rw [hY] at hst ho hlz
                  have hc2 := ho.cellAt i (by omega)
                  have hf2 := ho.frozenAt i
                  have hzk : (Y.map (Value.int .i64))[i]? = some (.int .i64 (rowAt Y i)) := by
                    rw [List.getElem?_map, rowAt_get (by omega)]
                    rfl
                  rw [hzk] at hc2
                  have hst2 := (ho.stored i (.int .i64 (bits .or .i64 (rowAt Y i) y))).1
                  rw [← List.map_set, ← hst] at hst2
                  have HST := Lib.hid hst2
                  clear hst hst2 hzk hbb hb hY hlz
                  go_wp2
                  go_region
                  all_goals
                    go_wp2
                    go_roundw
                    case rel => exact ⟨i + 1, by omega, by go_num, HST.out.drew, hB.drew.setCell (Nat.le_refl _) _⟩
                    case measure => simp [intOf]; omega
              · obtain rfl : i = n := by omega
                rw [← HS.out.2.1] at ho
                go_wp2
                go_roundw
                case rel => exact ⟨k + 1, by omega, by go_num, HS.out.1, ho, hB⟩
                case measure => simp [intOf]; omega
      · have hne : ((p.length : Int) != 2) = true := by simp; omega
        have hbad : okR n p = false := by
          unfold okR
          rw [decide_eq_false h2]
          rfl
        have HF := Lib.hid (rof_bad HP.out.1 hbad)
        clear hbad hrd hp hall
        go_wp2
        go_quiet ((go_at_call 54; exact quiet_eq (l6In_any _ _ _ _)))
        go_wp2
        go_ret2
        rw [HF.out]
        exact ⟨_, rfl, own_mono (row_lit0 _) hB.size, (below_drewN hB nq).alloc hB.size _⟩
    · obtain rfl : k = xss.length := by omega
      have hall2 : xss.all (okR n) = true := by rw [List.take_length] at hall; exact hall
      rw [List.take_length] at ho
      have HA := Lib.hid hall2
      clear hall hall2
      go_wp2
      go_ret2
      rw [HA.out]
      exact ⟨_, rfl, by rw [show (ifR true (rofL n xss)).length = n from rof_len n xss]; exact ho, hB⟩

set_option maxHeartbeats 1000000 in
theorem specRectOf_any (ao : Option Addr) (cap : Nat) (n : Int) (xss : List (List Int)) (w : World) (hn : xss.length ≤ 1048576) (hr : RdS w ao xss) :
    Calls Try.prog 26 #[.int .i64 n, .slice ao xss.length cap] w (Gave w (ifR (inB n 1 4 && xss.all (okR n.toNat)) (rofL n.toNat xss)) (inB n 1 4 && xss.all (okR n.toNat))) := by
  cases hb : inB n 1 4 with
  | false =>
    have HB := Lib.hid hb
    clear hr
    go_enter Try.func26, Try.ntmps26
    go_wp2_with (go_at_call 54; refine (l6In_any _ _ _ _).mono ?_; rintro e w' ⟨rfl, rfl⟩)
    go_ret2
    exact ⟨_, rfl, row_lit0 w, below_one _ _⟩
  | true =>
    have h14 : 1 ≤ n ∧ n ≤ 4 := of_decide_eq_true hb
    obtain ⟨m, rfl⟩ : ∃ m : Nat, n = (m : Int) := ⟨n.toNat, by omega⟩
    rw [Bool.true_and, Int.toNat_natCast]
    exact specRof_in ao cap m xss w (by omega) (by omega) hn hr
end Go.Proofs.Ytnmgoeklcmoalab
