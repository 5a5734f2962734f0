/-
  Relations made of rectangles: the program's rectangleFrom and RectOf; for lists of lists of at most 2^20 numbers in all.
-/
import Derived.Test.YtnmgoeklcmoalabQH
namespace Go.Proofs.Ytnmgoeklcmoalab
open Go.RowKit

set_option maxHeartbeats 1000000 in
theorem rectangleFrom_no (ao : Option Addr) (ca n : Nat) (p : List Int) (w : World) (h1 : 1 ≤ n) (h4 : n ≤ 4) (hp : okR n p = false) (hx : Rd w ao p) :
    Calls Try.prog 38 #[.slice ao p.length ca, .int .i64 n] w fun e w' => e = .returned (.tuple #[.agg #[.int .i64 0, .int .i64 0], .bool false]) ∧ Below w.heap.size w w' := by
  have B0 := below_one w (.cells #[.int .i64 0, .int .i64 0] 55)
  have hx := hx.below B0
  by_cases h2 : p.length = 2
  · obtain ⟨x, y, rfl⟩ := pairOf h2
    obtain ⟨b, o2, rfl, hb2, hcx⟩ := hx 0 x rfl
    obtain ⟨b3, o3, he, hb3, hcy⟩ := hx 1 y rfl
    simp only [Option.some.injEq, Addr.mk.injEq, and_true] at he
    obtain ⟨rfl, rfl⟩ := he
    simp only [Nat.add_zero] at hcx
    have hl2 : (([x, y] : List Int).length : Int) = 2 := rfl
    have hp2 : (rowIn n x && rowIn n y) = false := by
      have : (decide (([x, y] : List Int).length = 2) && rowIn n x && rowIn n y) = false := hp
      simpa using this
    clear hp hx h2
    cases hq1 : rowIn n x with
    | false =>
      clear hp2
      go_enter Try.func38, Try.ntmps38
      go_wp2_with (go_at_call 61; refine (isSet_any _ _ h1 h4 _).mono ?_; rintro e w' ⟨rfl, rfl⟩)
      exact bodyPost_ret (v := .tuple #[.agg #[.int .i64 0, .int .i64 0], .bool false]) (by simp [results, Try.results38, go_sem]) rfl ⟨rfl, by first | exact B0 | (refine Below.setCell ?_ (Nat.le_refl _) _; refine Below.setCell ?_ (Nat.le_refl _) _; exact B0)⟩
    | true =>
      rw [hq1, Bool.true_and] at hp2
      go_enter Try.func38, Try.ntmps38
      go_wp2_with (go_at_call 61; refine (isSet_any _ _ h1 h4 _).mono ?_; rintro e w' ⟨rfl, rfl⟩)
      exact bodyPost_ret (v := .tuple #[.agg #[.int .i64 0, .int .i64 0], .bool false]) (by simp [results, Try.results38, go_sem]) rfl ⟨rfl, by first | exact B0 | (refine Below.setCell ?_ (Nat.le_refl _) _; refine Below.setCell ?_ (Nat.le_refl _) _; exact B0)⟩
  · have hne : ((p.length : Int) != 2) = true := by simp; omega
    clear hp hx h2
    go_enter Try.func38, Try.ntmps38
    go_wp2
    exact bodyPost_ret (v := .tuple #[.agg #[.int .i64 0, .int .i64 0], .bool false]) (by simp [results, Try.results38, go_sem]) rfl ⟨rfl, by first | exact B0 | (refine Below.setCell ?_ (Nat.le_refl _) _; refine Below.setCell ?_ (Nat.le_refl _) _; exact B0)⟩

set_option maxHeartbeats 1000000 in
theorem rectangleFrom_yes (ao : Option Addr) (ca n : Nat) (x y : Int) (w : World) (h1 : 1 ≤ n) (h4 : n ≤ 4) (hq1 : rowIn n x = true) (hq2 : rowIn n y = true) (hx : Rd w ao [x, y]) :
    Calls Try.prog 38 #[.slice ao 2 ca, .int .i64 n] w fun e w' => e = .returned (.tuple #[.agg #[.int .i64 x, .int .i64 y], .bool true]) ∧ Below w.heap.size w w' := by
  have B0 := below_one w (.cells #[.int .i64 0, .int .i64 0] 55)
  have hx := hx.below B0
  obtain ⟨b, o2, rfl, hb2, hcx⟩ := hx 0 x rfl
  obtain ⟨b3, o3, he, hb3, hcy⟩ := hx 1 y rfl
  simp only [Option.some.injEq, Addr.mk.injEq, and_true] at he
  obtain ⟨rfl, rfl⟩ := he
  simp only [Nat.add_zero] at hcx
  clear hx
  go_enter Try.func38, Try.ntmps38
  go_wp2_with (go_at_call 61; refine (isSet_any _ _ h1 h4 _).mono ?_; rintro e w' ⟨rfl, rfl⟩)
  go_region
  all_goals
    go_wp2
    exact bodyPost_ret (v := .tuple #[.agg #[.int .i64 x, .int .i64 y], .bool true]) (by simp [results, Try.results38, go_sem]) rfl ⟨rfl, by first | exact (below_one w _).drew | exact below_one w _ | (refine Below.setCell ?_ (Nat.le_refl _) _; refine Below.setCell ?_ (Nat.le_refl _) _; first | exact B0.drew | exact B0)⟩

set_option maxRecDepth 100000 in
set_option maxHeartbeats 8000000 in
theorem implRof_in (ao : Option Addr) (cap n : Nat) (xss : List (List Int)) (w : World) (h1 : 1 ≤ n) (h4 : n ≤ 4) (hn : xss.length ≤ 1048576) (hr : RdS w ao xss) :
    Calls Try.prog 12 #[.int .i64 n, .slice ao xss.length cap] w (Gave w (ifR (xss.all (okR n)) (rofL n xss)) (xss.all (okR n))) := by
  have hin : inB (n : Int) 1 4 = true := inB_yes (by omega) (by omega)
  have HR := Lib.hid hr
  have r0 := zero_new w n
  have B0 := below_one w (.cells #[.int .i64 n, .int .i64 0, .int .i64 0, .int .i64 0, .int .i64 0] 46)
  have r1 : RelAt (w.alloc (.cells #[.int .i64 n, .int .i64 0, .int .i64 0, .int .i64 0, .int .i64 0] 46)) w.heap.size (rofL n (xss.take 0)) := r0
  clear hr r0
  go_enter Try.func12, Try.ntmps12
  go_wp2_with (go_at_call 37; refine (isCount_any _ _).mono ?_; rintro e w' ⟨rfl, rfl⟩)
  clear hin
  go_loopw [18, 8, 9, 10] (fun i _ _ _ wr => ∃ k : Nat, k ≤ xss.length ∧ i = .int .i64 k ∧ (xss.take k).all (okR n) = true ∧ RelAt wr w.heap.size (rofL n (xss.take k)) ∧ Below w.heap.size w wr)
    (fun i _ _ _ _ => xss.length - (intOf i).toNat)
  case atStart => exact ⟨0, Nat.zero_le _, rfl, rfl, r1, B0⟩
  case round =>
    clear r1 B0
    obtain ⟨k, hk, rfl, hall, ho, hB⟩ := hrel
    by_cases hlt : k < xss.length
    · obtain ⟨p, hp⟩ : ∃ p, xss[k]? = some p := ⟨_, List.getElem?_eq_getElem hlt⟩
      obtain ⟨b, off, ak, ck, rfl, hbl, hc1, hrd⟩ := (HR.out.below hB) k p hp
      have hi1 : ((k : Nat) : Int) < (xss.length : Int) := by omega
      have HP := Lib.hid (And.intro hp hall)
      cases hok : okR n p with
      | false =>
        have HF := Lib.hid (rof_bad HP.out.1 hok)
        have HC := Lib.hid (rectangleFrom_no ak ck n p wr h1 h4 hok hrd)
        clear hok hp hall hrd
        go_wp2_with fail
        refine HC.out.mono ?_
        rintro e w2 ⟨rfl, hb⟩
        have B2 := (hB.trans (hb.mono hB.size)).alloc (Nat.le_trans hB.size hb.size) (.cells #[.int .i64 0, .int .i64 0] 55)
        go_wp2
        go_ret2
        rw [HF.out]
        exact ⟨.slice none 0 0, rfl, World.ownsRow_nil _ _ _ _, B2⟩
      | true =>
        have hok2 := hok
        unfold okR at hok2
        rw [Bool.and_eq_true, Bool.and_eq_true] at hok2
        obtain ⟨x, y, rfl⟩ := pairOf (of_decide_eq_true hok2.1.1)
        have hall2 := rof_all HP.out.1 hok HP.out.2
        have hstep := rof_step (n := n) HP.out.1
        have hlen := rof_len n (xss.take k)
        obtain ⟨Z, hZ⟩ : ∃ Z, rofL n (xss.take k) = Z := ⟨_, rfl⟩
        rw [hZ] at ho hstep hlen
        have hadd : rofL n (xss.take (k + 1)) = rectTo Z x y n := hstep
        have hwp := fun W => withRectangle_any Z x y W (by omega)
        rw [hlen] at hwp
        have HC := Lib.hid (rectangleFrom_yes ak ck n x y wr h1 h4 hok2.1.2 hok2.2 hrd)
        have HS := Lib.hid (And.intro hall2 (And.intro hadd (And.intro hwp hlen)))
        simp only [List.length_cons, List.length_nil, Nat.zero_add, Nat.reduceAdd] at hc1
        clear hok hok2 hp hall hrd hall2 hadd hstep hwp hlen hZ
        go_wp2_with fail
        refine HC.out.mono ?_
        rintro e w2 ⟨rfl, hb⟩
        have r2 := (ho.below hb ho.lt).alloc (.cells #[.int .i64 x, .int .i64 y] 55)
        have B2 := (hB.trans (hb.mono hB.size)).alloc (Nat.le_trans hB.size hb.size) (.cells #[.int .i64 x, .int .i64 y] 55)
        have p0 := r2.cell0
        have p1 := r2.cell1
        have p2 := r2.cell2
        have p3 := r2.cell3
        have p4 := r2.cell4
        clear ho hB hb hc1 HC
        go_wp2_with fail
        refine (HS.out.2.2.1 _).mono ?_
        rintro e w3 ⟨rfl, hb⟩
        have r3 := r2.below hb r2.lt
        have B3 := B2.trans (hb.mono B2.size)
        clear r2 B2 hb p0 p1 p2 p3 p4
        have q0 := r3.cell0
        have q1 := r3.cell1
        have q2 := r3.cell2
        have q3 := r3.cell3
        have q4 := r3.cell4
        have f0 := r3.free 0
        have f1 := r3.free 1
        have f2 := r3.free 2
        have f3 := r3.free 3
        have f4 := r3.free 4
        obtain ⟨Y, hY⟩ : ∃ Y, rectTo Z x y n = Y := ⟨_, rfl⟩
        rw [hY] at HS ⊢
        have hput := r3.put Y
        have HPT := Lib.hid hput
        have bb := fun (W : World) (t : Nat) (v : Value) (h : Below w.heap.size w W) => h.setCell (p := ⟨w.heap.size, t, none⟩) (Nat.le_refl _) v
        clear hput hY r3
        go_wp2
        go_roundw
        case rel => exact ⟨k + 1, by omega, by go_num, HS.out.1, by rw [HS.out.2.1]; exact HPT.out, bb _ _ _ (bb _ _ _ (bb _ _ _ (bb _ _ _ (bb _ _ _ B3))))⟩
        case measure => simp [intOf]; omega
    · obtain rfl : k = xss.length := by omega
      have hall2 : xss.all (okR n) = true := by rw [List.take_length] at hall; exact hall
      rw [List.take_length] at ho
      have hlen := rof_len n xss
      have HA := Lib.hid (And.intro hall2 hlen)
      have p0 := ho.cell0
      have p1 := ho.cell1
      have p2 := ho.cell2
      have p3 := ho.cell3
      have p4 := ho.cell4
      clear hall hall2 hlen
      go_wp2_with fail
      refine (list_any (rofL n xss) wr (by rw [HA.out.2]; exact h4)).mono ?_
      rintro e w3 ⟨v, rfl, ho3, hb3⟩
      go_wp2
      go_ret2
      rw [HA.out.1]
      exact ⟨v, rfl, own_mono ho3 hB.size, hB.trans (hb3.mono hB.size)⟩

theorem implRectOf_any (ao : Option Addr) (cap : Nat) (n : Int) (xss : List (List Int)) (w : World) (hn : xss.length ≤ 1048576) (hr : RdS w ao xss) :
    Calls Try.prog 12 #[.int .i64 n, .slice ao xss.length cap] w (Gave w (ifR (inB n 1 4 && xss.all (okR n.toNat)) (rofL n.toNat xss)) (inB n 1 4 && xss.all (okR n.toNat))) := by
  cases hb : inB n 1 4 with
  | false =>
    clear hr
    go_enter Try.func12, Try.ntmps12
    go_wp2_with (go_at_call 37; refine (isCount_any _ _).mono ?_; rintro e w' ⟨rfl, rfl⟩)
    go_ret2
    exact ⟨.slice none 0 0, rfl, World.ownsRow_nil _ _ _ _, Below.refl _ _⟩
  | true =>
    have h14 : 1 ≤ n ∧ n ≤ 4 := of_decide_eq_true hb
    obtain ⟨m, rfl⟩ : ∃ m : Nat, n = (m : Int) := ⟨n.toNat, by omega⟩
    rw [Bool.true_and, Int.toNat_natCast]
    exact implRof_in ao cap m xss w (by omega) (by omega) hn hr
end Go.Proofs.Ytnmgoeklcmoalab
