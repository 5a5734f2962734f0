/-
  The program's ProgAfter, ProgBefore, ProgSurely, ProgTriple, ProgEnds, ProgKept and ProgLargest; for lists of at most 2^20 numbers.
-/
import Derived.Test.YtcdiicckngndcabPG
import Derived.Test.YtcdiicckngndcabQA
namespace Go.Proofs.Ytcdiicckngndcab
open Go.RowKit

theorem set_st {xs : List Int} {z : Int} (h : setB xs z = true) : Rl xs.length xs ∧ St xs.length z := by
  unfold setB at h
  rw [Bool.and_eq_true] at h
  have R := Rl.of h.1
  exact ⟨R, St.of R.four h.2⟩
/-- a set, if it is told rightly -/
def setI (xs : List Int) (z m : Int) : Int := if setB xs z then m else 0
theorem after_one {n : Nat} {xs : List Int} (R : Rl n xs) (b : Nat) {z : Int} (hz : St n z) (w : World) (hs : SeqAt w b [.step xs]) :
    Calls Try.prog 46 #[sqV b 1, .int .i64 z] w fun e w' => e = .returned (.int .i64 (imgA xs z)) ∧ Below w.heap.size w w' :=
  after_any R.four [.step xs] (by simp) (fun p hp => by obtain rfl := List.mem_singleton.1 hp; exact ⟨R.len, R⟩) b z hz w hs
theorem before_one {n : Nat} {xs : List Int} (R : Rl n xs) (b : Nat) {z : Int} (hz : St n z) (w : World) (hs : SeqAt w b [.step xs]) :
    Calls Try.prog 52 #[sqV b 1, .int .i64 z] w fun e w' => e = .returned (.int .i64 (imgA (turnL xs) z)) ∧ Below w.heap.size w w' :=
  before_any R.four [.step xs] (by simp) (fun p hp => by obtain rfl := List.mem_singleton.1 hp; exact ⟨R.len, R⟩) b z hz w hs
theorem surely_star {xs : List Int} (R : Rl xs.length xs) (b : Nat) {z : Int} (hz : St xs.length z) (w : World) (hs : SeqAt w b [.step (starL xs)]) :
    Calls Try.prog 58 #[sqV b 1, .int .i64 z, .int .i64 xs.length] w fun e w' => e = .returned (.int .i64 (surA xs.length (starL xs) z)) ∧ Below w.heap.size w w' := by
  have S := R.star
  have S2 : Rl (starL xs).length (starL xs) := by rw [S.len]; exact S
  have := surely_one S2 b (z := z) (by rw [S.len]; exact hz) w hs
  rw [S.len] at this
  exact this

set_option maxRecDepth 100000 in
set_option maxHeartbeats 4000000 in
theorem after1_any {xs : List Int} (R : Rl xs.length xs) {z : Int} (hz : St xs.length z) (w : World) :
    Calls Try.prog 44 #[relOf xs, .int .i64 z] w fun e w' => e = .returned (.int .i64 (imgA xs z)) ∧ Below w.heap.size w w' := by
  have H := Lib.hid (And.intro (fun w => once_any xs w) (fun b w h => after_one R b hz w h))
  have x0 := RelAt.new w xs
  have B0 := below_one w (.cells #[.int .i64 xs.length, .int .i64 (rowAt xs 0), .int .i64 (rowAt xs 1), .int .i64 (rowAt xs 2), .int .i64 (rowAt xs 3)] 47)
  have p0 := x0.cell0
  have p1 := x0.cell1
  have p2 := x0.cell2
  have p3 := x0.cell3
  have p4 := x0.cell4
  obtain ⟨r, hr⟩ : ∃ r, imgA xs z = r := ⟨_, rfl⟩
  rw [hr] at H ⊢
  clear R hz hr
  go_enter Try.func44, Try.ntmps44
  go_wp2_with fail
  refine (H.out.1 _).mono ?_
  rintro e w2 ⟨b, rfl, hle, hq, hb⟩
  have B := B0.trans (hb.mono B0.size)
  clear hb B0 x0 p0 p1 p2 p3 p4
  go_wp2_with fail
  refine (H.out.2 _ _ hq).mono ?_
  rintro e w3 ⟨rfl, hb⟩
  have B2 := B.trans (hb.mono B.size)
  clear hb B
  go_wp2
  go_ret
  exact ⟨rfl, B2⟩

set_option maxRecDepth 100000 in
set_option maxHeartbeats 4000000 in
theorem before1_any {xs : List Int} (R : Rl xs.length xs) {z : Int} (hz : St xs.length z) (w : World) :
    Calls Try.prog 51 #[relOf xs, .int .i64 z] w fun e w' => e = .returned (.int .i64 (imgA (turnL xs) z)) ∧ Below w.heap.size w w' := by
  have H := Lib.hid (And.intro (fun w => once_any xs w) (fun b w h => before_one R b hz w h))
  have x0 := RelAt.new w xs
  have B0 := below_one w (.cells #[.int .i64 xs.length, .int .i64 (rowAt xs 0), .int .i64 (rowAt xs 1), .int .i64 (rowAt xs 2), .int .i64 (rowAt xs 3)] 47)
  have p0 := x0.cell0
  have p1 := x0.cell1
  have p2 := x0.cell2
  have p3 := x0.cell3
  have p4 := x0.cell4
  obtain ⟨r, hr⟩ : ∃ r, imgA (turnL xs) z = r := ⟨_, rfl⟩
  rw [hr] at H ⊢
  clear R hz hr
  go_enter Try.func51, Try.ntmps51
  go_wp2_with fail
  refine (H.out.1 _).mono ?_
  rintro e w2 ⟨b, rfl, hle, hq, hb⟩
  have B := B0.trans (hb.mono B0.size)
  clear hb B0 x0 p0 p1 p2 p3 p4
  go_wp2_with fail
  refine (H.out.2 _ _ hq).mono ?_
  rintro e w3 ⟨rfl, hb⟩
  have B2 := B.trans (hb.mono B.size)
  clear hb B
  go_wp2
  go_ret
  exact ⟨rfl, B2⟩

set_option maxRecDepth 100000 in
set_option maxHeartbeats 4000000 in
theorem surely1_any {xs : List Int} (R : Rl xs.length xs) {z : Int} (hz : St xs.length z) (w : World) :
    Calls Try.prog 57 #[relOf xs, .int .i64 z] w fun e w' => e = .returned (.int .i64 (surA xs.length xs z)) ∧ Below w.heap.size w w' := by
  have H := Lib.hid (And.intro (fun w => once_any xs w) (fun b w h => surely_one R b hz w h))
  have x0 := RelAt.new w xs
  have B0 := below_one w (.cells #[.int .i64 xs.length, .int .i64 (rowAt xs 0), .int .i64 (rowAt xs 1), .int .i64 (rowAt xs 2), .int .i64 (rowAt xs 3)] 47)
  have p0 := x0.cell0
  have p1 := x0.cell1
  have p2 := x0.cell2
  have p3 := x0.cell3
  have p4 := x0.cell4
  obtain ⟨r, hr⟩ : ∃ r, surA xs.length xs z = r := ⟨_, rfl⟩
  rw [hr] at H ⊢
  clear R hz hr
  go_enter Try.func57, Try.ntmps57
  go_wp2
  obtain ⟨W0, hW0⟩ : ∃ W0, (w.alloc (.cells #[.int .i64 xs.length, .int .i64 (rowAt xs 0), .int .i64 (rowAt xs 1), .int .i64 (rowAt xs 2), .int .i64 (rowAt xs 3)] 47)) = W0 := ⟨_, rfl⟩
  rw [hW0] at p0 p1 p2 p3 p4 x0 B0 ⊢
  clear hW0
  have x := x0.drew
  have B := B0.drew
  clear x0 B0
  go_region_held (fun w' => w'.cell? ⟨w.heap.size, 0, none⟩ = some (.int .i64 xs.length) ∧ w'.cell? ⟨w.heap.size, 1, none⟩ = some (.int .i64 (rowAt xs 0)) ∧ w'.cell? ⟨w.heap.size, 2, none⟩ = some (.int .i64 (rowAt xs 1)) ∧ w'.cell? ⟨w.heap.size, 3, none⟩ = some (.int .i64 (rowAt xs 2)) ∧ w'.cell? ⟨w.heap.size, 4, none⟩ = some (.int .i64 (rowAt xs 3))) (go_keep) (first
    | (go_at_call 45; refine (H.out.1 _).mono ?_; rintro e w2 ⟨b, rfl, hle, hq, hb⟩; have x := x.below hb x.lt; have B := B.trans (hb.mono B.size); have p0 := x.cell0; have p1 := x.cell1; have p2 := x.cell2; have p3 := x.cell3; have p4 := x.cell4; clear hb)
    | (go_at_call 58; refine (H.out.2 _ _ hq).mono ?_; rintro e w3 ⟨rfl, hb⟩; have x := x.below hb x.lt; have B := B.trans (hb.mono B.size); have p0 := x.cell0; have p1 := x.cell1; have p2 := x.cell2; have p3 := x.cell3; have p4 := x.cell4; clear hb))
  all_goals
    go_wp2
    go_ret
    exact ⟨rfl, B⟩

set_option maxRecDepth 100000 in
set_option maxHeartbeats 4000000 in
theorem kept1_any {xs : List Int} (R : Rl xs.length xs) {z : Int} (hz : St xs.length z) (w : World) :
    Calls Try.prog 81 #[relOf xs, .int .i64 z] w fun e w' => e = .returned (.int .i64 (imgA (starL xs) z)) ∧ Below w.heap.size w w' := by
  have H := Lib.hid (And.intro (fun w => anyTimes_any R w) (fun b w h => after_one R.star b hz w h))
  have x0 := RelAt.new w xs
  have B0 := below_one w (.cells #[.int .i64 xs.length, .int .i64 (rowAt xs 0), .int .i64 (rowAt xs 1), .int .i64 (rowAt xs 2), .int .i64 (rowAt xs 3)] 47)
  have p0 := x0.cell0
  have p1 := x0.cell1
  have p2 := x0.cell2
  have p3 := x0.cell3
  have p4 := x0.cell4
  obtain ⟨r, hr⟩ : ∃ r, imgA (starL xs) z = r := ⟨_, rfl⟩
  rw [hr] at H ⊢
  clear R hz hr
  go_enter Try.func81, Try.ntmps81
  go_wp2_with fail
  refine (H.out.1 _).mono ?_
  rintro e w2 ⟨b, rfl, hle, hq, hb⟩
  have B := B0.trans (hb.mono B0.size)
  clear hb B0 x0 p0 p1 p2 p3 p4
  go_wp2_with fail
  refine (H.out.2 _ _ hq).mono ?_
  rintro e w3 ⟨rfl, hb⟩
  have B2 := B.trans (hb.mono B.size)
  clear hb B
  go_wp2
  go_ret
  exact ⟨rfl, B2⟩

set_option maxRecDepth 100000 in
set_option maxHeartbeats 4000000 in
theorem largest1_any {xs : List Int} (R : Rl xs.length xs) {z : Int} (hz : St xs.length z) (w : World) :
    Calls Try.prog 79 #[relOf xs, .int .i64 z] w fun e w' => e = .returned (.int .i64 (surA xs.length (starL xs) z)) ∧ Below w.heap.size w w' := by
  have H := Lib.hid (And.intro (fun w => anyTimes_any R w) (fun b w h => surely_star R b hz w h))
  have x0 := RelAt.new w xs
  have B0 := below_one w (.cells #[.int .i64 xs.length, .int .i64 (rowAt xs 0), .int .i64 (rowAt xs 1), .int .i64 (rowAt xs 2), .int .i64 (rowAt xs 3)] 47)
  have p0 := x0.cell0
  have p1 := x0.cell1
  have p2 := x0.cell2
  have p3 := x0.cell3
  have p4 := x0.cell4
  obtain ⟨r, hr⟩ : ∃ r, surA xs.length (starL xs) z = r := ⟨_, rfl⟩
  rw [hr] at H ⊢
  clear R hz hr
  go_enter Try.func79, Try.ntmps79
  go_wp2
  obtain ⟨W0, hW0⟩ : ∃ W0, (w.alloc (.cells #[.int .i64 xs.length, .int .i64 (rowAt xs 0), .int .i64 (rowAt xs 1), .int .i64 (rowAt xs 2), .int .i64 (rowAt xs 3)] 47)) = W0 := ⟨_, rfl⟩
  rw [hW0] at p0 p1 p2 p3 p4 x0 B0 ⊢
  clear hW0
  have x := x0.drew
  have B := B0.drew
  clear x0 B0
  go_region_held (fun w' => w'.cell? ⟨w.heap.size, 0, none⟩ = some (.int .i64 xs.length) ∧ w'.cell? ⟨w.heap.size, 1, none⟩ = some (.int .i64 (rowAt xs 0)) ∧ w'.cell? ⟨w.heap.size, 2, none⟩ = some (.int .i64 (rowAt xs 1)) ∧ w'.cell? ⟨w.heap.size, 3, none⟩ = some (.int .i64 (rowAt xs 2)) ∧ w'.cell? ⟨w.heap.size, 4, none⟩ = some (.int .i64 (rowAt xs 3))) (go_keep) (first
    | (go_at_call 80; refine (H.out.1 _).mono ?_; rintro e w2 ⟨b, rfl, hle, hq, hb⟩; have x := x.below hb x.lt; have B := B.trans (hb.mono B.size); have p0 := x.cell0; have p1 := x.cell1; have p2 := x.cell2; have p3 := x.cell3; have p4 := x.cell4; clear hb)
    | (go_at_call 58; refine (H.out.2 _ _ hq).mono ?_; rintro e w3 ⟨rfl, hb⟩; have x := x.below hb x.lt; have B := B.trans (hb.mono B.size); have p0 := x.cell0; have p1 := x.cell1; have p2 := x.cell2; have p3 := x.cell3; have p4 := x.cell4; clear hb))
  all_goals
    go_wp2
    go_ret
    exact ⟨rfl, B⟩

theorem cf_ProgAfter (args : Array Value) (w : World) : Sem.run Try.prog (callFunc 44 args) w = .ok (.enter 44 args) w := by kernel_rfl
theorem implProgAfter_any (ao : Option Addr) (ca : Nat) (xs : List Int) (z : Int) (w : World) (hl : xs.length ≤ 1048576) (hx : Rd w ao xs) :
    Calls Try.prog 13 #[.slice ao xs.length ca, .int .i64 z] w fun e w' => e = .returned (.tuple #[.int .i64 (setI xs z (imgA xs z)), .bool (setB xs z)]) ∧ Below w.heap.size w w' := by
  unfold setI
  cases hp : setB xs z with
  | false =>
    have h1 := Lib.hid (setMadeOf_no (.func (.func 44) #[] #[]) ao ca xs z w hl hx hp)
    clear hp
    go_enter Try.func13, Try.ntmps13
    go_wp2_with (go_at_call 43; refine h1.out.mono ?_; rintro e w1 ⟨rfl, hb⟩)
    go_ret2
    exact ⟨rfl, hb⟩
  | true =>
    obtain ⟨R, hz⟩ := set_st hp
    have h1 := Lib.hid (setMadeOf_yes 44 cf_ProgAfter (imgA xs z) ao ca xs z w hx hp (fun w => after1_any R hz w))
    clear hp R hz
    go_enter Try.func13, Try.ntmps13
    go_wp2_with (go_at_call 43; refine h1.out.mono ?_; rintro e w1 ⟨rfl, hb⟩)
    go_ret2
    exact ⟨rfl, hb⟩

theorem cf_ProgBefore (args : Array Value) (w : World) : Sem.run Try.prog (callFunc 51 args) w = .ok (.enter 51 args) w := by kernel_rfl
theorem implProgBefore_any (ao : Option Addr) (ca : Nat) (xs : List Int) (z : Int) (w : World) (hl : xs.length ≤ 1048576) (hx : Rd w ao xs) :
    Calls Try.prog 16 #[.slice ao xs.length ca, .int .i64 z] w fun e w' => e = .returned (.tuple #[.int .i64 (setI xs z (imgA (turnL xs) z)), .bool (setB xs z)]) ∧ Below w.heap.size w w' := by
  unfold setI
  cases hp : setB xs z with
  | false =>
    have h1 := Lib.hid (setMadeOf_no (.func (.func 51) #[] #[]) ao ca xs z w hl hx hp)
    clear hp
    go_enter Try.func16, Try.ntmps16
    go_wp2_with (go_at_call 43; refine h1.out.mono ?_; rintro e w1 ⟨rfl, hb⟩)
    go_ret2
    exact ⟨rfl, hb⟩
  | true =>
    obtain ⟨R, hz⟩ := set_st hp
    have h1 := Lib.hid (setMadeOf_yes 51 cf_ProgBefore (imgA (turnL xs) z) ao ca xs z w hx hp (fun w => before1_any R hz w))
    clear hp R hz
    go_enter Try.func16, Try.ntmps16
    go_wp2_with (go_at_call 43; refine h1.out.mono ?_; rintro e w1 ⟨rfl, hb⟩)
    go_ret2
    exact ⟨rfl, hb⟩

theorem cf_ProgSurely (args : Array Value) (w : World) : Sem.run Try.prog (callFunc 57 args) w = .ok (.enter 57 args) w := by kernel_rfl
theorem implProgSurely_any (ao : Option Addr) (ca : Nat) (xs : List Int) (z : Int) (w : World) (hl : xs.length ≤ 1048576) (hx : Rd w ao xs) :
    Calls Try.prog 20 #[.slice ao xs.length ca, .int .i64 z] w fun e w' => e = .returned (.tuple #[.int .i64 (setI xs z (surA xs.length xs z)), .bool (setB xs z)]) ∧ Below w.heap.size w w' := by
  unfold setI
  cases hp : setB xs z with
  | false =>
    have h1 := Lib.hid (setMadeOf_no (.func (.func 57) #[] #[]) ao ca xs z w hl hx hp)
    clear hp
    go_enter Try.func20, Try.ntmps20
    go_wp2_with (go_at_call 43; refine h1.out.mono ?_; rintro e w1 ⟨rfl, hb⟩)
    go_ret2
    exact ⟨rfl, hb⟩
  | true =>
    obtain ⟨R, hz⟩ := set_st hp
    have h1 := Lib.hid (setMadeOf_yes 57 cf_ProgSurely (surA xs.length xs z) ao ca xs z w hx hp (fun w => surely1_any R hz w))
    clear hp R hz
    go_enter Try.func20, Try.ntmps20
    go_wp2_with (go_at_call 43; refine h1.out.mono ?_; rintro e w1 ⟨rfl, hb⟩)
    go_ret2
    exact ⟨rfl, hb⟩

theorem cf_ProgKept (args : Array Value) (w : World) : Sem.run Try.prog (callFunc 81 args) w = .ok (.enter 81 args) w := by kernel_rfl
theorem implProgKept_any (ao : Option Addr) (ca : Nat) (xs : List Int) (z : Int) (w : World) (hl : xs.length ≤ 1048576) (hx : Rd w ao xs) :
    Calls Try.prog 38 #[.slice ao xs.length ca, .int .i64 z] w fun e w' => e = .returned (.tuple #[.int .i64 (setI xs z (imgA (starL xs) z)), .bool (setB xs z)]) ∧ Below w.heap.size w w' := by
  unfold setI
  cases hp : setB xs z with
  | false =>
    have h1 := Lib.hid (setMadeOf_no (.func (.func 81) #[] #[]) ao ca xs z w hl hx hp)
    clear hp
    go_enter Try.func38, Try.ntmps38
    go_wp2_with (go_at_call 43; refine h1.out.mono ?_; rintro e w1 ⟨rfl, hb⟩)
    go_ret2
    exact ⟨rfl, hb⟩
  | true =>
    obtain ⟨R, hz⟩ := set_st hp
    have h1 := Lib.hid (setMadeOf_yes 81 cf_ProgKept (imgA (starL xs) z) ao ca xs z w hx hp (fun w => kept1_any R hz w))
    clear hp R hz
    go_enter Try.func38, Try.ntmps38
    go_wp2_with (go_at_call 43; refine h1.out.mono ?_; rintro e w1 ⟨rfl, hb⟩)
    go_ret2
    exact ⟨rfl, hb⟩

theorem cf_ProgLargest (args : Array Value) (w : World) : Sem.run Try.prog (callFunc 79 args) w = .ok (.enter 79 args) w := by kernel_rfl
theorem implProgLargest_any (ao : Option Addr) (ca : Nat) (xs : List Int) (z : Int) (w : World) (hl : xs.length ≤ 1048576) (hx : Rd w ao xs) :
    Calls Try.prog 36 #[.slice ao xs.length ca, .int .i64 z] w fun e w' => e = .returned (.tuple #[.int .i64 (setI xs z (surA xs.length (starL xs) z)), .bool (setB xs z)]) ∧ Below w.heap.size w w' := by
  unfold setI
  cases hp : setB xs z with
  | false =>
    have h1 := Lib.hid (setMadeOf_no (.func (.func 79) #[] #[]) ao ca xs z w hl hx hp)
    clear hp
    go_enter Try.func36, Try.ntmps36
    go_wp2_with (go_at_call 43; refine h1.out.mono ?_; rintro e w1 ⟨rfl, hb⟩)
    go_ret2
    exact ⟨rfl, hb⟩
  | true =>
    obtain ⟨R, hz⟩ := set_st hp
    have h1 := Lib.hid (setMadeOf_yes 79 cf_ProgLargest (surA xs.length (starL xs) z) ao ca xs z w hx hp (fun w => largest1_any R hz w))
    clear hp R hz
    go_enter Try.func36, Try.ntmps36
    go_wp2_with (go_at_call 43; refine h1.out.mono ?_; rintro e w1 ⟨rfl, hb⟩)
    go_ret2
    exact ⟨rfl, hb⟩

/-- a program leads from a set into another one -/
def triB (z : Int) (xs : List Int) (q : Int) : Bool := setB xs z && setB xs q && partB (imgA xs z) q
set_option maxHeartbeats 2000000 in
theorem implProgTriple_any (ao : Option Addr) (ca : Nat) (z : Int) (xs : List Int) (q : Int) (w : World) (hl : xs.length ≤ 1048576) (hx : Rd w ao xs) :
    Calls Try.prog 17 #[.int .i64 z, .slice ao xs.length ca, .int .i64 q] w fun e w' => e = .returned (.bool (triB z xs q)) ∧ Below w.heap.size w w' := by
  cases hq : relIn xs with
  | false =>
    have ht : triB z xs q = false := by unfold triB setB; rw [hq]; rfl
    rw [ht]
    have HQ := Lib.hid hq
    clear hq ht
    go_enter Try.func17, Try.ntmps17
    go_wp2_with (go_at_call 53; refine (relationFrom_no _ _ _ _ hl HQ.out hx).mono ?_; rintro e w1 ⟨rfl, hb⟩)
    go_ret
    exact ⟨rfl, hb.alloc hb.size _⟩
  | true =>
    have R := Rl.of hq
    have h4 := relIn_len hq
    have hs := fun wr => isSet_any z xs.length h4.1 h4.2 wr
    have hs2 := fun wr => isSet_any q xs.length h4.1 h4.2 wr
    cases h1 : rowIn xs.length z with
    | false =>
      have ht : triB z xs q = false := by unfold triB setB; rw [h1, Bool.and_false]; rfl
      rw [ht]
      rw [h1] at hs
      have HS := Lib.hid hs
      have HQ := Lib.hid hq
      clear hq hs hs2 h4 ht R h1
      go_enter Try.func17, Try.ntmps17
      go_wp2_with fail
      refine (relationFrom_yes _ _ _ _ HQ.out hx).mono ?_
      rintro e w1 ⟨rfl, hb⟩
      have x1 := RelAt.new w1 xs
      have B1 := hb.alloc hb.size (.cells #[.int .i64 xs.length, .int .i64 (rowAt xs 0), .int .i64 (rowAt xs 1), .int .i64 (rowAt xs 2), .int .i64 (rowAt xs 3)] 47)
      have p0 := x1.cell0
      clear x1 hb
      go_wp2_with fail
      refine (HS.out _).mono ?_
      rintro e w2 ⟨rfl, rfl⟩
      go_wp2
      go_ret
      exact ⟨rfl, B1⟩
    | true =>
      cases h2 : rowIn xs.length q with
      | false =>
        have ht : triB z xs q = false := by unfold triB setB; rw [h2, Bool.and_false, Bool.and_false]; rfl
        rw [ht]
        rw [h1] at hs
        rw [h2] at hs2
        have HS := Lib.hid (And.intro hs hs2)
        have HQ := Lib.hid hq
        clear hq hs hs2 h4 ht R h1 h2
        go_enter Try.func17, Try.ntmps17
        go_wp2_with fail
        refine (relationFrom_yes _ _ _ _ HQ.out hx).mono ?_
        rintro e w1 ⟨rfl, hb⟩
        have x1 := RelAt.new w1 xs
        have B1 := hb.alloc hb.size (.cells #[.int .i64 xs.length, .int .i64 (rowAt xs 0), .int .i64 (rowAt xs 1), .int .i64 (rowAt xs 2), .int .i64 (rowAt xs 3)] 47)
        have p0 := x1.cell0
        clear x1 hb
        go_wp2_with fail
        refine (HS.out.1 _).mono ?_
        rintro e w2 ⟨rfl, rfl⟩
        go_wp2_with fail
        refine (HS.out.2 _).mono ?_
        rintro e w2 ⟨rfl, rfl⟩
        go_wp2
        go_ret
        exact ⟨rfl, B1⟩
      | true =>
        have ht : triB z xs q = partB (imgA xs z) q := by unfold triB setB; rw [hq, h1, h2]; rfl
        rw [ht]
        rw [h1] at hs
        rw [h2] at hs2
        have hz := St.of R.four h1
        have HS := Lib.hid (And.intro hs (And.intro hs2 (And.intro (fun w => once_any xs w) (fun b w h => after_one R b hz w h))))
        obtain ⟨r, hr⟩ : ∃ r, imgA xs z = r := ⟨_, rfl⟩
        rw [hr] at HS ⊢
        have HQ := Lib.hid hq
        clear hq hs hs2 h4 ht R h1 h2 hz hr
        go_enter Try.func17, Try.ntmps17
        go_wp2_with fail
        refine (relationFrom_yes _ _ _ _ HQ.out hx).mono ?_
        rintro e w1 ⟨rfl, hb⟩
        have x1 := RelAt.new w1 xs
        have B1 := hb.alloc hb.size (.cells #[.int .i64 xs.length, .int .i64 (rowAt xs 0), .int .i64 (rowAt xs 1), .int .i64 (rowAt xs 2), .int .i64 (rowAt xs 3)] 47)
        have p0 := x1.cell0
        have p1 := x1.cell1
        have p2 := x1.cell2
        have p3 := x1.cell3
        have p4 := x1.cell4
        clear x1 hb
        go_wp2_with fail
        refine (HS.out.1 _).mono ?_
        rintro e w2 ⟨rfl, rfl⟩
        go_wp2_with fail
        refine (HS.out.2.1 _).mono ?_
        rintro e w2 ⟨rfl, rfl⟩
        go_wp2_with fail
        refine (HS.out.2.2.1 _).mono ?_
        rintro e w3 ⟨b, rfl, hle, hs, hb⟩
        have B2 := B1.trans (hb.mono B1.size)
        clear hb B1 p0 p1 p2 p3 p4
        go_wp2_with fail
        refine (HS.out.2.2.2 _ _ hs).mono ?_
        rintro e w4 ⟨rfl, hb⟩
        have B3 := B2.trans (hb.mono B2.size)
        clear hb B2 hs
        go_wp2_with fail
        refine (isPartOf_any _ _ _).mono ?_
        rintro e w5 ⟨rfl, rfl⟩
        go_wp2
        go_ret
        exact ⟨rfl, B3⟩

end Go.Proofs.Ytcdiicckngndcab
