/-
  The law FnEquCount: its draw and its walk; for whatever bytes.
-/
import Derived.Test.YtonmjcfkanldcaaJF
import Derived.Test.YtonmjcfkanldcaaDE
import Derived.Test.YtonmjcfkanldcaaSI
namespace Go.Proofs.Ytonmjcfkanldcaa
open Go.RowKit

theorem drawEquCount_any (ao : Option Addr) (c : Nat) (bs : List Nat) (w : World) (hb : RdB w ao bs) (hc : bs.length ≤ c) (hbA : bs ≠ [] → ∀ a, ao = some a → a.block < w.heap.size) :
    Calls Try.prog 22 #[.slice ao bs.length c] w fun e w' => ∃ k : Nat, k < 6 ∧ e = .returned (.int .i64 k) ∧ Below w.heap.size w w' := by
  have HB := Lib.hid (And.intro hb hbA)
  clear hb hbA
  go_enter Try.func22, Try.ntmps22
  go_wp2_with fail
  refine (open_any ao c bs w hc).mono ?_
  rintro e w1 ⟨bs', hbs, rfl, hr, hB⟩
  have hl : bs'.length ≤ 2000 := by rw [hbs, List.length_take]; omega
  have hA : bs' ≠ [] → ∀ a, ao = some a → a.block < w.heap.size := fun h => HB.out.2 (fun e => h (by rw [hbs, e]; rfl))
  have hb1 : RdB w1 ao bs' := by rw [hbs]; exact (HB.out.1.take 2000).below hB
  have S : DrS w1 w1 w.heap.size ao bs' c 0 := ⟨hr, Below.refl _ _, Nat.le_refl _, fun _ _ _ => rfl⟩
  have HC := Lib.hid (pick_step S hb1 hA hl (by omega) 6 6 rfl (by omega) (by omega))
  clear hr hbs hA hb1 S hl
  go_wp2_with fail
  refine HC.out.mono ?_
  rintro e w2 ⟨k, hk, rfl, S2, hss, _, _⟩
  have HS := Lib.hid (And.intro hk (hB.trans S2.bl))
  clear S2 hss HC
  go_wp2
  go_ret
  exact ⟨k, HS.out.1, rfl, HS.out.2⟩

/-- the ways to choose, and the sum so far -/
def tW (n : Nat) : Nat → Nat
  | 0 => 1
  | j + 1 => tW n j * (n - 1 - j) / (j + 1)
def tS (n : Nat) : Nat → Nat
  | 0 => 0
  | j + 1 => tS n j + tW n j * (if j = 0 then 1 else ways j 0)

theorem fnEquCount_long (ao : Option Addr) (cap n : Nat) (w : World) (hm : n ≤ maxLen) (hl : ¬ n ≤ 1048576) :
    Calls Try.prog 5 #[.slice ao n cap] w fun e w' => e = .returned (.bool true) ∧ Below w.heap.size w w' := by
  unfold maxLen at hm
  go_enter Try.func5, Try.ntmps5
  go_wp2
  go_ret
  exact ⟨rfl, Below.refl _ _⟩

theorem implEqu_no (j : Int) (h : ¬ (1 ≤ j ∧ j ≤ 4)) (w : World) : Calls Try.prog 17 #[.int .i64 j] w fun e w' => e = .returned (.tuple #[.int .i64 0, .bool false]) ∧ Below w.heap.size w w' := by
  have := implEquCount_any j w
  have e : inB j 1 4 = false := inB_no h
  unfold equN at this
  rw [e] at this
  exact this
theorem specEqu_no (j : Int) (h : ¬ (1 ≤ j ∧ j ≤ 4)) (w : World) : Calls Try.prog 23 #[.int .i64 j] w fun e w' => e = .returned (.tuple #[.int .i64 0, .bool false]) ∧ Below w.heap.size w w' := by
  have := specEquCount_any j w
  have e : inB j 1 4 = false := inB_no h
  unfold equN at this
  rw [e] at this
  exact this
theorem implEqu_at (j : Int) (v : Int) (h : 1 ≤ j ∧ j ≤ 4) (hv : ((ways j.toNat 0 : Nat) : Int) = v) (w : World) : Calls Try.prog 17 #[.int .i64 j] w fun e w' => e = .returned (.tuple #[.int .i64 v, .bool true]) ∧ Below w.heap.size w w' := by
  have := implEquCount_any j w
  have e : inB j 1 4 = true := inB_yes h.1 h.2
  unfold equN at this
  rw [e, if_pos rfl, hv] at this
  exact this
theorem specEqu_at (j : Int) (v : Int) (h : 1 ≤ j ∧ j ≤ 4) (hv : ((ways j.toNat 0 : Nat) : Int) = v) (w : World) : Calls Try.prog 23 #[.int .i64 j] w fun e w' => e = .returned (.tuple #[.int .i64 v, .bool true]) ∧ Below w.heap.size w w' := by
  have := specEquCount_any j w
  have e : inB j 1 4 = true := inB_yes h.1 h.2
  unfold equN at this
  rw [e, if_pos rfl, hv] at this
  exact this

set_option maxHeartbeats 8000000 in
theorem fnEquCount_walk (ao : Option Addr) (c : Nat) (bs : List Nat) (w : World) (hl : bs.length ≤ 1048576) (hb : RdB w ao bs) (hc : bs.length ≤ c) (hbA : bs ≠ [] → ∀ a, ao = some a → a.block < w.heap.size) :
    Calls Try.prog 5 #[.slice ao bs.length c] w fun e w' => e = .returned (.bool true) ∧ Below w.heap.size w w' := by
  have HD := Lib.hid (drawEquCount_any ao c bs w hb hc hbA)
  clear hb hbA
  go_enter Try.func5, Try.ntmps5
  go_wp2_with fail
  refine HD.out.mono ?_
  rintro e w1 ⟨k, hk, rfl, B1⟩
  clear HD
  rcases (by omega : k = 0 ∨ k = 1 ∨ k = 2 ∨ k = 3 ∨ k = 4 ∨ k = 5) with rfl | rfl | rfl | rfl | rfl | rfl
  · go_wp2_with fail
    refine (implEqu_no _ (by omega) _).mono ?_
    rintro e w2 ⟨rfl, b2⟩
    go_wp2_with fail
    refine (specEqu_no _ (by omega) _).mono ?_
    rintro e w3 ⟨rfl, b3⟩
    go_wp2
    go_ret
    exact ⟨rfl, (B1.trans (b2.mono B1.size)).trans (b3.mono (B1.trans (b2.mono B1.size)).size)⟩
  · go_wp2_with fail
    refine (implEqu_at _ 1 (by omega) rfl _).mono ?_
    rintro e w2 ⟨rfl, b2⟩
    have B2 := B1.trans (b2.mono B1.size)
    clear b2 B1
    go_wp2_with fail
    refine (specEqu_at _ 1 (by omega) rfl _).mono ?_
    rintro e w3 ⟨rfl, b3⟩
    have B3 := B2.trans (b3.mono B2.size)
    clear b3 B2
    go_wp2
    go_loopw [8, 9, 10, 11, 12, 13] (fun s y i _ _ _ wr => ∃ j : Nat, j ≤ 1 ∧ i = .int .i64 j ∧ s = .int .i64 (tS 1 j : Nat) ∧ y = .int .i64 (tW 1 j : Nat) ∧ Below w.heap.size w wr)
      (fun _ _ i _ _ _ _ => 1 - (intOf i).toNat)
    case atStart => exact ⟨0, by omega, rfl, rfl, rfl, B3⟩
    case round =>
      clear B3
      obtain ⟨j, hj, rfl, rfl, rfl, hB⟩ := hrel
      rcases (by omega : j = 0 ∨ j = 1) with rfl | rfl
      · rw [show tS 1 0 = 0 from rfl, show tW 1 0 = 1 from rfl]
        go_wp2
        go_roundw
        case rel => exact ⟨1, by omega, rfl, rfl, rfl, hB⟩
        case measure => simp [intOf]
      · rw [show tS 1 1 = 1 from rfl, show tW 1 1 = 0 from rfl]
        go_wp2
        go_ret
        exact ⟨rfl, hB⟩
  · go_wp2_with fail
    refine (implEqu_at _ 2 (by omega) rfl _).mono ?_
    rintro e w2 ⟨rfl, b2⟩
    have B2 := B1.trans (b2.mono B1.size)
    clear b2 B1
    go_wp2_with fail
    refine (specEqu_at _ 2 (by omega) rfl _).mono ?_
    rintro e w3 ⟨rfl, b3⟩
    have B3 := B2.trans (b3.mono B2.size)
    clear b3 B2
    go_wp2
    go_loopw [8, 9, 10, 11, 12, 13] (fun s y i _ _ _ wr => ∃ j : Nat, j ≤ 2 ∧ i = .int .i64 j ∧ s = .int .i64 (tS 2 j : Nat) ∧ y = .int .i64 (tW 2 j : Nat) ∧ Below w.heap.size w wr)
      (fun _ _ i _ _ _ _ => 2 - (intOf i).toNat)
    case atStart => exact ⟨0, by omega, rfl, rfl, rfl, B3⟩
    case round =>
      clear B3
      obtain ⟨j, hj, rfl, rfl, rfl, hB⟩ := hrel
      rcases (by omega : j = 0 ∨ j = 1 ∨ j = 2) with rfl | rfl | rfl
      · rw [show tS 2 0 = 0 from rfl, show tW 2 0 = 1 from rfl]
        go_wp2
        go_roundw
        case rel => exact ⟨1, by omega, rfl, rfl, rfl, hB⟩
        case measure => simp [intOf]
      · rw [show tS 2 1 = 1 from rfl, show tW 2 1 = 1 from rfl]
        go_wp2_with fail
        refine (implEqu_at _ 1 (by omega) rfl _).mono ?_
        rintro e w4 ⟨rfl, b4⟩
        go_wp2
        go_roundw
        case rel => exact ⟨2, by omega, rfl, rfl, rfl, hB.trans (b4.mono hB.size)⟩
        case measure => simp [intOf]
      · rw [show tS 2 2 = 2 from rfl, show tW 2 2 = 0 from rfl]
        go_wp2
        go_ret
        exact ⟨rfl, hB⟩
  · go_wp2_with fail
    refine (implEqu_at _ 5 (by omega) rfl _).mono ?_
    rintro e w2 ⟨rfl, b2⟩
    have B2 := B1.trans (b2.mono B1.size)
    clear b2 B1
    go_wp2_with fail
    refine (specEqu_at _ 5 (by omega) rfl _).mono ?_
    rintro e w3 ⟨rfl, b3⟩
    have B3 := B2.trans (b3.mono B2.size)
    clear b3 B2
    go_wp2
    go_loopw [8, 9, 10, 11, 12, 13] (fun s y i _ _ _ wr => ∃ j : Nat, j ≤ 3 ∧ i = .int .i64 j ∧ s = .int .i64 (tS 3 j : Nat) ∧ y = .int .i64 (tW 3 j : Nat) ∧ Below w.heap.size w wr)
      (fun _ _ i _ _ _ _ => 3 - (intOf i).toNat)
    case atStart => exact ⟨0, by omega, rfl, rfl, rfl, B3⟩
    case round =>
      clear B3
      obtain ⟨j, hj, rfl, rfl, rfl, hB⟩ := hrel
      rcases (by omega : j = 0 ∨ j = 1 ∨ j = 2 ∨ j = 3) with rfl | rfl | rfl | rfl
      · rw [show tS 3 0 = 0 from rfl, show tW 3 0 = 1 from rfl]
        go_wp2
        go_roundw
        case rel => exact ⟨1, by omega, rfl, rfl, rfl, hB⟩
        case measure => simp [intOf]
      · rw [show tS 3 1 = 1 from rfl, show tW 3 1 = 2 from rfl]
        go_wp2_with fail
        refine (implEqu_at _ 1 (by omega) rfl _).mono ?_
        rintro e w4 ⟨rfl, b4⟩
        go_wp2
        go_roundw
        case rel => exact ⟨2, by omega, rfl, rfl, rfl, hB.trans (b4.mono hB.size)⟩
        case measure => simp [intOf]
      · rw [show tS 3 2 = 3 from rfl, show tW 3 2 = 1 from rfl]
        go_wp2_with fail
        refine (implEqu_at _ 2 (by omega) rfl _).mono ?_
        rintro e w4 ⟨rfl, b4⟩
        go_wp2
        go_roundw
        case rel => exact ⟨3, by omega, rfl, rfl, rfl, hB.trans (b4.mono hB.size)⟩
        case measure => simp [intOf]
      · rw [show tS 3 3 = 5 from rfl, show tW 3 3 = 0 from rfl]
        go_wp2
        go_ret
        exact ⟨rfl, hB⟩
  · go_wp2_with fail
    refine (implEqu_at _ 15 (by omega) rfl _).mono ?_
    rintro e w2 ⟨rfl, b2⟩
    have B2 := B1.trans (b2.mono B1.size)
    clear b2 B1
    go_wp2_with fail
    refine (specEqu_at _ 15 (by omega) rfl _).mono ?_
    rintro e w3 ⟨rfl, b3⟩
    have B3 := B2.trans (b3.mono B2.size)
    clear b3 B2
    go_wp2
    go_loopw [8, 9, 10, 11, 12, 13] (fun s y i _ _ _ wr => ∃ j : Nat, j ≤ 4 ∧ i = .int .i64 j ∧ s = .int .i64 (tS 4 j : Nat) ∧ y = .int .i64 (tW 4 j : Nat) ∧ Below w.heap.size w wr)
      (fun _ _ i _ _ _ _ => 4 - (intOf i).toNat)
    case atStart => exact ⟨0, by omega, rfl, rfl, rfl, B3⟩
    case round =>
      clear B3
      obtain ⟨j, hj, rfl, rfl, rfl, hB⟩ := hrel
      rcases (by omega : j = 0 ∨ j = 1 ∨ j = 2 ∨ j = 3 ∨ j = 4) with rfl | rfl | rfl | rfl | rfl
      · rw [show tS 4 0 = 0 from rfl, show tW 4 0 = 1 from rfl]
        go_wp2
        go_roundw
        case rel => exact ⟨1, by omega, rfl, rfl, rfl, hB⟩
        case measure => simp [intOf]
      · rw [show tS 4 1 = 1 from rfl, show tW 4 1 = 3 from rfl]
        go_wp2_with fail
        refine (implEqu_at _ 1 (by omega) rfl _).mono ?_
        rintro e w4 ⟨rfl, b4⟩
        go_wp2
        go_roundw
        case rel => exact ⟨2, by omega, rfl, rfl, rfl, hB.trans (b4.mono hB.size)⟩
        case measure => simp [intOf]
      · rw [show tS 4 2 = 4 from rfl, show tW 4 2 = 3 from rfl]
        go_wp2_with fail
        refine (implEqu_at _ 2 (by omega) rfl _).mono ?_
        rintro e w4 ⟨rfl, b4⟩
        go_wp2
        go_roundw
        case rel => exact ⟨3, by omega, rfl, rfl, rfl, hB.trans (b4.mono hB.size)⟩
        case measure => simp [intOf]
      · rw [show tS 4 3 = 10 from rfl, show tW 4 3 = 1 from rfl]
        go_wp2_with fail
        refine (implEqu_at _ 5 (by omega) rfl _).mono ?_
        rintro e w4 ⟨rfl, b4⟩
        go_wp2
        go_roundw
        case rel => exact ⟨4, by omega, rfl, rfl, rfl, hB.trans (b4.mono hB.size)⟩
        case measure => simp [intOf]
      · rw [show tS 4 4 = 15 from rfl, show tW 4 4 = 0 from rfl]
        go_wp2
        go_ret
        exact ⟨rfl, hB⟩
  · go_wp2_with fail
    refine (implEqu_no _ (by omega) _).mono ?_
    rintro e w2 ⟨rfl, b2⟩
    go_wp2_with fail
    refine (specEqu_no _ (by omega) _).mono ?_
    rintro e w3 ⟨rfl, b3⟩
    go_wp2
    go_ret
    exact ⟨rfl, (B1.trans (b2.mono B1.size)).trans (b3.mono (B1.trans (b2.mono B1.size)).size)⟩
end Go.Proofs.Ytonmjcfkanldcaa
