/-
  The program's RelOf; for lists of lists of at most 2^20 numbers in all.
-/
import Derived.Test.YtnmgoeklcmoalabFF
namespace Go.Proofs.Ytnmgoeklcmoalab
open Go.RowKit

set_option maxRecDepth 100000 in
set_option maxHeartbeats 8000000 in
theorem implOf_in (ao : Option Addr) (cap n : Nat) (xss : List (List Int)) (w : World) (h1 : 1 ≤ n) (h4 : n ≤ 4) (hn : xss.length ≤ 1048576) (hr : RdS w ao xss) :
    Calls Try.prog 21 #[.int .i64 n, .slice ao xss.length cap] w (Gave w (ifR (xss.all (okP n)) (ofL n xss)) (xss.all (okP n))) := by
  have hin : inB (n : Int) 1 4 = true := inB_yes (by omega) (by omega)
  have HR := Lib.hid hr
  have r0 := zero_new w n
  have B0 := below_one w (.cells #[.int .i64 n, .int .i64 0, .int .i64 0, .int .i64 0, .int .i64 0] 46)
  have r1 : RelAt (w.alloc (.cells #[.int .i64 n, .int .i64 0, .int .i64 0, .int .i64 0, .int .i64 0] 46)) w.heap.size (ofL n (xss.take 0)) := r0
  clear hr r0
  go_enter Try.func21, Try.ntmps21
  go_wp2_with (go_at_call 37; refine (isCount_any _ _).mono ?_; rintro e w' ⟨rfl, rfl⟩)
  clear hin
  go_loopw [16, 8] (fun i _ wr => ∃ k : Nat, k ≤ xss.length ∧ i = .int .i64 k ∧ (xss.take k).all (okP n) = true ∧ RelAt wr w.heap.size (ofL n (xss.take k)) ∧ Below w.heap.size w wr)
    (fun i _ _ => xss.length - (intOf i).toNat)
  case atStart => exact ⟨0, Nat.zero_le _, rfl, rfl, r1, B0⟩
  case round =>
    clear r1 B0
    obtain ⟨k, hk, rfl, hall, ho, hB⟩ := hrel
    by_cases hlt : k < xss.length
    · obtain ⟨p, hp⟩ : ∃ p, xss[k]? = some p := ⟨_, List.getElem?_eq_getElem hlt⟩
      obtain ⟨b, off, ak, ck, rfl, hbl, hc1, hrd⟩ := (HR.out.below hB) k p hp
      have hi1 : ((k : Nat) : Int) < (xss.length : Int) := by omega
      have HP := Lib.hid (And.intro hp hall)
      by_cases h2 : p.length = 2
      · obtain ⟨x, y, rfl⟩ := two_of h2
        obtain ⟨b2, o2, rfl, hb2, hcx⟩ := hrd 0 x rfl
        obtain ⟨b3, o3, he, hb3, hcy⟩ := hrd 1 y rfl
        simp only [Option.some.injEq, Addr.mk.injEq, and_true] at he
        obtain ⟨rfl, rfl⟩ := he
        simp only [Nat.add_zero] at hcx
        clear hrd hp hall h2
        simp only [List.length_cons, List.length_nil, Nat.zero_add, Nat.reduceAdd] at hc1
        cases hq1 : ptB x n with
        | false =>
          have hbad : okP n [x, y] = false := by
            show (decide (([x, y] : List Int).length = 2) && ptB x n && ptB y n) = false
            rw [hq1]
            simp
          have HF := Lib.hid (all_bad HP.out.1 hbad)
          clear hbad
          go_wp2_with (go_at_call 52; refine (isPoint_any _ _ _).mono ?_; rintro e w' ⟨rfl, rfl⟩)
          go_ret2
          rw [HF.out]
          exact ⟨.slice none 0 0, rfl, World.ownsRow_nil _ _ _ _, hB⟩
        | true =>
          cases hq2 : ptB y n with
          | false =>
            have hbad : okP n [x, y] = false := by
              show (decide (([x, y] : List Int).length = 2) && ptB x n && ptB y n) = false
              rw [hq2]
              simp
            have HF := Lib.hid (all_bad HP.out.1 hbad)
            clear hbad
            go_wp2_with (go_at_call 52; refine (isPoint_any _ _ _).mono ?_; rintro e w' ⟨rfl, rfl⟩)
            go_ret2
            rw [HF.out]
            exact ⟨.slice none 0 0, rfl, World.ownsRow_nil _ _ _ _, hB⟩
          | true =>
            have hgood : okP n [x, y] = true := by
              show (decide (([x, y] : List Int).length = 2) && ptB x n && ptB y n) = true
              rw [hq1, hq2]
              rfl
            have hx : 0 ≤ x ∧ x < n := of_decide_eq_true hq1
            have hy : 0 ≤ y ∧ y < n := of_decide_eq_true hq2
            obtain ⟨i, rfl⟩ : ∃ i : Nat, x = (i : Int) := ⟨x.toNat, by omega⟩
            obtain ⟨j, rfl⟩ : ∃ j : Nat, y = (j : Int) := ⟨y.toNat, by omega⟩
            have hall2 := all_step HP.out.1 hgood HP.out.2
            have hstep := ofL_step (n := n) HP.out.1
            have hlen := ofL_len n (xss.take k)
            obtain ⟨Z, hZ⟩ : ∃ Z, ofL n (xss.take k) = Z := ⟨_, rfl⟩
            rw [hZ] at ho hstep hlen
            have hadd : ofL n (xss.take (k + 1)) = addPair Z i j := hstep
            have hwp := fun W => withPair_any Z i j W (by omega) (by omega) (by omega)
            have HS := Lib.hid (And.intro hall2 (And.intro hadd (And.intro hwp hlen)))
            clear hall2 hadd hstep hgood hx hy hlen hwp hZ
            have p0 := ho.cell0
            have p1 := ho.cell1
            have p2 := ho.cell2
            have p3 := ho.cell3
            have p4 := ho.cell4
            have hW := ho.lt
            go_wp2_with (go_at_call 52; refine (isPoint_any _ _ _).mono ?_; rintro e w' ⟨rfl, rfl⟩)
            go_region_with (go_at_call 53; refine (HS.out.2.2.1 _).mono ?_; rintro e w2 ⟨rfl, hb⟩; have r2 := ho.drew.below hb hW; have B2 := hB.drew.trans (hb.mono hB.drew.size); have q0 := r2.cell0; have q1 := r2.cell1; have q2 := r2.cell2; have q3 := r2.cell3; have q4 := r2.cell4; have f0 := r2.free 0; have f1 := r2.free 1; have f2 := r2.free 2; have f3 := r2.free 3; have f4 := r2.free 4)
            all_goals
              have hput := r2.put (addPair Z i j)
              have HPT := Lib.hid hput
              have bb := fun (W : World) (t : Nat) (v : Value) (h : Below w.heap.size w W) => h.setCell (p := ⟨w.heap.size, t, none⟩) (Nat.le_refl _) v
              clear hput p0 p1 p2 p3 p4
              go_wp2
              go_roundw
              case rel => exact ⟨k + 1, by omega, by go_num, HS.out.1, by rw [HS.out.2.1]; exact HPT.out, bb _ _ _ (bb _ _ _ (bb _ _ _ (bb _ _ _ (bb _ _ _ B2))))⟩
              case measure => simp [intOf]; omega
      · have hne : ((p.length : Int) != 2) = true := by simp; omega
        have hbad : okP n p = false := by
          unfold okP
          rw [decide_eq_false h2]
          rfl
        have HF := Lib.hid (all_bad HP.out.1 hbad)
        clear hbad hrd hp hall
        go_wp2
        go_ret2
        rw [HF.out]
        exact ⟨.slice none 0 0, rfl, World.ownsRow_nil _ _ _ _, hB⟩
    · obtain rfl : k = xss.length := by omega
      have hall2 : xss.all (okP n) = true := by rw [List.take_length] at hall; exact hall
      rw [List.take_length] at ho
      have hlen := ofL_len n xss
      have HA := Lib.hid (And.intro hall2 hlen)
      have p0 := ho.cell0
      have p1 := ho.cell1
      have p2 := ho.cell2
      have p3 := ho.cell3
      have p4 := ho.cell4
      clear hall hall2 hlen
      go_wp2_with fail
      refine (list_any (ofL n xss) wr (by rw [HA.out.2]; exact h4)).mono ?_
      rintro e w3 ⟨v, rfl, ho3, hb3⟩
      go_wp2
      go_ret2
      rw [HA.out.1]
      exact ⟨v, rfl, own_mono ho3 hB.size, hB.trans (hb3.mono hB.size)⟩

theorem implRelOf_any (ao : Option Addr) (cap : Nat) (n : Int) (xss : List (List Int)) (w : World) (hn : xss.length ≤ 1048576) (hr : RdS w ao xss) :
    Calls Try.prog 21 #[.int .i64 n, .slice ao xss.length cap] w (Gave w (ifR (inB n 1 4 && xss.all (okP n.toNat)) (ofL n.toNat xss)) (inB n 1 4 && xss.all (okP n.toNat))) := by
  cases hb : inB n 1 4 with
  | false =>
    clear hr
    go_enter Try.func21, Try.ntmps21
    go_wp2_with (go_at_call 37; refine (isCount_any _ _).mono ?_; rintro e w' ⟨rfl, rfl⟩)
    go_ret2
    exact ⟨.slice none 0 0, rfl, World.ownsRow_nil _ _ _ _, Below.refl _ _⟩
  | true =>
    have h14 : 1 ≤ n ∧ n ≤ 4 := of_decide_eq_true hb
    obtain ⟨m, rfl⟩ : ∃ m : Nat, n = (m : Int) := ⟨n.toNat, by omega⟩
    rw [Bool.true_and, Int.toNat_natCast]
    exact implOf_in ao cap m xss w (by omega) (by omega) hn hr
end Go.Proofs.Ytnmgoeklcmoalab
