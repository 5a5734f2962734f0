/-
  The model's EquOf.
-/
import Derived.Test.YtebkeebgjjmdbaaGreatDoorJS
import Derived.Test.YtebkeebgjjmdbaaGreatDoorJC
import Derived.StillTailTactics
import Derived.LaidEql
import Derived.Stop.Asserts
import Derived.RowKitTokens
import Derived.Test.YtebkeebgjjmdbaaGreatDoorJK
import Derived.Test.YtebkeebgjjmdbaaGreatDoorEF
namespace Go.Proofs.YtebkeebgjjmdbaaGreatDoor
open Go.RowKit

/-- the table's cells that are read -/
structure TabW (w : World) : Prop where
  c0 : w.cell? ⟨2, 0, none⟩ = some (.int .u8 0)
  c1 : w.cell? ⟨2, 1, none⟩ = some (.int .u8 1)
  c3 : w.cell? ⟨2, 3, none⟩ = some (.int .u8 2)
  c7 : w.cell? ⟨2, 7, none⟩ = some (.int .u8 3)
  c15 : w.cell? ⟨2, 15, none⟩ = some (.int .u8 4)
theorem TabW.keep {w w' : World} (h : TabW w) (hk : w'.heap[2]? = w.heap[2]?) : TabW w' :=
  ⟨(World.cell?_of_block hk).trans h.c0, (World.cell?_of_block hk).trans h.c1, (World.cell?_of_block hk).trans h.c3, (World.cell?_of_block hk).trans h.c7, (World.cell?_of_block hk).trans h.c15⟩

theorem lo_of : ∀ t : Fin 16, lo (t.val : Int) = ([0, 1, 0, 2, 0, 1, 0, 3, 0, 1, 0, 2, 0, 1, 0, 4] : List Nat).getD t.val 0 := by decide +kernel
set_option maxRecDepth 20000 in
set_option maxHeartbeats 8000000 in
theorem tz64_any (t : Fin 16) (w : World) (T : TabW w) : Calls Tryz.prog 75 #[.int .u64 (18446744073709551615 - (t.val : Int))] w fun e w' => e = .returned (.int .i64 (lo (t.val : Int) : Nat)) ∧ w = w' := by
  rw [lo_of t]
  obtain ⟨c0, c1, c3, c7, c15⟩ := T
  obtain ⟨t, ht⟩ := t
  rcases (by omega : t = 0 ∨ t = 1 ∨ t = 2 ∨ t = 3 ∨ t = 4 ∨ t = 5 ∨ t = 6 ∨ t = 7 ∨ t = 8 ∨ t = 9 ∨ t = 10 ∨ t = 11 ∨ t = 12 ∨ t = 13 ∨ t = 14 ∨ t = 15) with rfl | rfl | rfl | rfl | rfl | rfl | rfl | rfl | rfl | rfl | rfl | rfl | rfl | rfl | rfl | rfl
  · have hx : IntKind.u64.wrap (bits BinOp.and IntKind.u64 18446744073709551615 (IntKind.u64.wrap (-18446744073709551615)) * 285870213051353865) / 288230376151711744 = 0 := by decide +kernel
    go_enter Tryz.func75, Tryz.ntmps75
    go_wp2
    go_ret
    exact ⟨rfl, rfl⟩
  · have hx : IntKind.u64.wrap (bits BinOp.and IntKind.u64 18446744073709551614 (IntKind.u64.wrap (-18446744073709551614)) * 285870213051353865) / 288230376151711744 = 1 := by decide +kernel
    go_enter Tryz.func75, Tryz.ntmps75
    go_wp2
    go_ret
    exact ⟨rfl, rfl⟩
  · have hx : IntKind.u64.wrap (bits BinOp.and IntKind.u64 18446744073709551613 (IntKind.u64.wrap (-18446744073709551613)) * 285870213051353865) / 288230376151711744 = 0 := by decide +kernel
    go_enter Tryz.func75, Tryz.ntmps75
    go_wp2
    go_ret
    exact ⟨rfl, rfl⟩
  · have hx : IntKind.u64.wrap (bits BinOp.and IntKind.u64 18446744073709551612 (IntKind.u64.wrap (-18446744073709551612)) * 285870213051353865) / 288230376151711744 = 3 := by decide +kernel
    go_enter Tryz.func75, Tryz.ntmps75
    go_wp2
    go_ret
    exact ⟨rfl, rfl⟩
  · have hx : IntKind.u64.wrap (bits BinOp.and IntKind.u64 18446744073709551611 (IntKind.u64.wrap (-18446744073709551611)) * 285870213051353865) / 288230376151711744 = 0 := by decide +kernel
    go_enter Tryz.func75, Tryz.ntmps75
    go_wp2
    go_ret
    exact ⟨rfl, rfl⟩
  · have hx : IntKind.u64.wrap (bits BinOp.and IntKind.u64 18446744073709551610 (IntKind.u64.wrap (-18446744073709551610)) * 285870213051353865) / 288230376151711744 = 1 := by decide +kernel
    go_enter Tryz.func75, Tryz.ntmps75
    go_wp2
    go_ret
    exact ⟨rfl, rfl⟩
  · have hx : IntKind.u64.wrap (bits BinOp.and IntKind.u64 18446744073709551609 (IntKind.u64.wrap (-18446744073709551609)) * 285870213051353865) / 288230376151711744 = 0 := by decide +kernel
    go_enter Tryz.func75, Tryz.ntmps75
    go_wp2
    go_ret
    exact ⟨rfl, rfl⟩
  · have hx : IntKind.u64.wrap (bits BinOp.and IntKind.u64 18446744073709551608 (IntKind.u64.wrap (-18446744073709551608)) * 285870213051353865) / 288230376151711744 = 7 := by decide +kernel
    go_enter Tryz.func75, Tryz.ntmps75
    go_wp2
    go_ret
    exact ⟨rfl, rfl⟩
  · have hx : IntKind.u64.wrap (bits BinOp.and IntKind.u64 18446744073709551607 (IntKind.u64.wrap (-18446744073709551607)) * 285870213051353865) / 288230376151711744 = 0 := by decide +kernel
    go_enter Tryz.func75, Tryz.ntmps75
    go_wp2
    go_ret
    exact ⟨rfl, rfl⟩
  · have hx : IntKind.u64.wrap (bits BinOp.and IntKind.u64 18446744073709551606 (IntKind.u64.wrap (-18446744073709551606)) * 285870213051353865) / 288230376151711744 = 1 := by decide +kernel
    go_enter Tryz.func75, Tryz.ntmps75
    go_wp2
    go_ret
    exact ⟨rfl, rfl⟩
  · have hx : IntKind.u64.wrap (bits BinOp.and IntKind.u64 18446744073709551605 (IntKind.u64.wrap (-18446744073709551605)) * 285870213051353865) / 288230376151711744 = 0 := by decide +kernel
    go_enter Tryz.func75, Tryz.ntmps75
    go_wp2
    go_ret
    exact ⟨rfl, rfl⟩
  · have hx : IntKind.u64.wrap (bits BinOp.and IntKind.u64 18446744073709551604 (IntKind.u64.wrap (-18446744073709551604)) * 285870213051353865) / 288230376151711744 = 3 := by decide +kernel
    go_enter Tryz.func75, Tryz.ntmps75
    go_wp2
    go_ret
    exact ⟨rfl, rfl⟩
  · have hx : IntKind.u64.wrap (bits BinOp.and IntKind.u64 18446744073709551603 (IntKind.u64.wrap (-18446744073709551603)) * 285870213051353865) / 288230376151711744 = 0 := by decide +kernel
    go_enter Tryz.func75, Tryz.ntmps75
    go_wp2
    go_ret
    exact ⟨rfl, rfl⟩
  · have hx : IntKind.u64.wrap (bits BinOp.and IntKind.u64 18446744073709551602 (IntKind.u64.wrap (-18446744073709551602)) * 285870213051353865) / 288230376151711744 = 1 := by decide +kernel
    go_enter Tryz.func75, Tryz.ntmps75
    go_wp2
    go_ret
    exact ⟨rfl, rfl⟩
  · have hx : IntKind.u64.wrap (bits BinOp.and IntKind.u64 18446744073709551601 (IntKind.u64.wrap (-18446744073709551601)) * 285870213051353865) / 288230376151711744 = 0 := by decide +kernel
    go_enter Tryz.func75, Tryz.ntmps75
    go_wp2
    go_ret
    exact ⟨rfl, rfl⟩
  · have hx : IntKind.u64.wrap (bits BinOp.and IntKind.u64 18446744073709551600 (IntKind.u64.wrap (-18446744073709551600)) * 285870213051353865) / 288230376151711744 = 15 := by decide +kernel
    go_enter Tryz.func75, Tryz.ntmps75
    go_wp2
    go_ret
    exact ⟨rfl, rfl⟩

theorem trailing_any (t : Fin 16) (w : World) (T : TabW w) : Calls Tryz.prog 61 #[.int .u64 (18446744073709551615 - (t.val : Int))] w fun e w' => e = .returned (.int .i64 (lo (t.val : Int) : Nat)) ∧ w = w' := by
  have HC := Lib.hid (tz64_any t w T)
  have ht := t.isLt
  clear T
  go_enter Tryz.func61, Tryz.ntmps61
  go_wp2_with fail
  refine HC.out.mono ?_
  rintro e w' ⟨rfl, rfl⟩
  go_wp2
  go_ret
  exact ⟨rfl, rfl⟩
theorem leastOutside_any (t : Fin 16) (w : World) (T : TabW w) : Calls Tryz.prog 42 #[.int .i64 (t.val : Int)] w fun e w' => e = .returned (.int .i64 (lo (t.val : Int) : Nat)) ∧ w = w' := by
  have HC := Lib.hid (trailing_any t w T)
  have ht := t.isLt
  obtain ⟨l, hl⟩ : ∃ l, lo (t.val : Int) = l := ⟨_, rfl⟩
  rw [hl] at HC ⊢
  clear T hl
  obtain ⟨t, ht2⟩ := t
  rcases (by omega : t = 0 ∨ t = 1 ∨ t = 2 ∨ t = 3 ∨ t = 4 ∨ t = 5 ∨ t = 6 ∨ t = 7 ∨ t = 8 ∨ t = 9 ∨ t = 10 ∨ t = 11 ∨ t = 12 ∨ t = 13 ∨ t = 14 ∨ t = 15) with rfl | rfl | rfl | rfl | rfl | rfl | rfl | rfl | rfl | rfl | rfl | rfl | rfl | rfl | rfl | rfl
  all_goals
    go_enter Tryz.func42, Tryz.ntmps42
    go_wp2_with fail
    refine HC.out.mono ?_
    rintro e w' ⟨rfl, rfl⟩
    go_wp2
    go_ret
    exact ⟨rfl, rfl⟩
end Go.Proofs.YtebkeebgjjmdbaaGreatDoor

namespace Go.Proofs.YtebkeebgjjmdbaaGreatDoor
open Go.RowKit

theorem onePoint_4 (w : World) : Calls Tryz.prog 20 #[.int .i64 4] w fun e w' => e = .returned (.int .i64 (pt 4)) ∧ w = w' := by
  go_enter Tryz.func20, Tryz.ntmps20
  go_wp2
  go_ret
  exact ⟨rfl, rfl⟩
theorem has_4 (s : Int) (j : Nat) (h : j ≤ 4) (w : World) : Calls Tryz.prog 44 #[.int .i64 s, .int .i64 j] w fun e w' => e = .returned (.bool (hasB s j)) ∧ w = w' := by
  rcases Nat.lt_or_ge j 4 with h | h
  · exact has_any s j h w
  · obtain rfl : j = 4 := by omega
    go_enter Tryz.func44, Tryz.ntmps44
    go_wp2_with fail
    refine (onePoint_4 _).mono ?_
    rintro e w' ⟨rfl, rfl⟩
    go_wp2
    go_ret
    exact ⟨rfl, rfl⟩
theorem has_ltn : ∀ n : Fin 5, ∀ c : Fin 16, c.val < 2 ^ n.val → ∀ t : Fin 16, hasB (c.val : Int) (lo (t.val : Int)) = true → lo (t.val : Int) < n.val := by decide +kernel
theorem lo_le : ∀ t : Fin 16, lo (t.val : Int) ≤ 4 := by decide +kernel
theorem iFold_take {n : Nat} {xs : List Int} {k : Nat} {c : Int} (h : xs[k]? = some c) : iFold n (xs.take (k + 1)) = (iFold n (xs.take k)).bind fun st => iStep n st c := by
  rw [List.take_add_one, h]
  exact iFold_snoc n _ c
theorem iFold_stop {n : Nat} {xs : List Int} {k : Nat} {c : Int} {t : Int} {ps : List Nat} (h : xs[k]? = some c) (hf : iFold n (xs.take k) = some (t, ps)) (hk : iOk n t c = false) : iRes n xs = none := by
  have h1 : iFold n (xs.take (k + 1)) = none := by
    rw [iFold_take h, hf]
    show iStep n (t, ps) c = none
    unfold iStep
    rw [show (t, ps).1 = t from rfl, hk]
    rfl
  have h2 : iFold n xs = none := by
    have := iFold_app n (xs.take (k + 1)) (xs.drop (k + 1)) h1
    rwa [List.take_append_drop] at this
  unfold iRes
  rw [h2]

/-- what comes of a list of sets -/
def Parted (w : World) (n : Nat) (xs : List Int) (e : Ending) (w' : World) : Prop :=
  Below w.heap.size w w' ∧ ((∃ (ps : List Nat), iFold n xs = some (((2 ^ n - 1 : Nat) : Int), ps) ∧ Fo ps ∧ e = .returned (.tuple #[.slice (some ⟨w.heap.size, 0, none⟩) n n, .nilIface]) ∧ LinkW w' w.heap.size n ps ∧ w.heap.size + 1 + n ≤ w'.heap.size) ∨
    (iRes n xs = none ∧ ∃ a : Nat, e = .returned (.tuple #[.slice none 0 0, .iface 51 (.pointer (some ⟨a, 0, none⟩))])))

set_option maxRecDepth 20000 in
set_option maxHeartbeats 8000000 in
theorem linkedByPartition_any (n : Nat) (h1 : 1 ≤ n) (h4 : n ≤ 4) (ao : Option Addr) (ca : Nat) (xs : List Int) (w : World) (hl : xs.length ≤ 1048576) (hx : Rd w ao xs) (T : TabW w) (hT : 2 < w.heap.size) :
    Calls Tryz.prog 22 #[.int .i64 n, .slice ao xs.length ca] w (Parted w n xs) := by
  have HTab := Lib.hid (fun (wr : World) (hb : Below w.heap.size w wr) => T.keep (hb.block _ hT))
  clear T
  go_enter Tryz.func22, Tryz.ntmps22
  go_wp2_with fail
  refine (unlinked_any n h4 _).mono ?_
  rintro e w1 ⟨rfl, hL, hs, hB⟩
  have hsz : w.heap.size + 1 + n ≤ w1.heap.size := by omega
  clear hs
  go_wp2
  go_loopw [17, 7, 8, 9, 10, 11, 12] (fun i t _ _ _ _ _ wr => ∃ (k : Nat) (told : Fin 16) (ps : List Nat), k ≤ xs.length ∧ i = .int .i64 k ∧ t = .int .i64 (told.val : Int) ∧ iFold n (xs.take k) = some ((told.val : Int), ps) ∧ Fo ps ∧ LinkW wr w.heap.size n ps ∧ w.heap.size + 1 + n ≤ wr.heap.size ∧ Below w.heap.size w wr)
    (fun i _ _ _ _ _ _ _ => xs.length - (intOf i).toNat)
  case atStart => exact ⟨0, 0, fo0, Nat.zero_le _, rfl, rfl, rfl, Fo.zero, hL, hsz, hB⟩
  case round =>
    clear hL hsz hB
    obtain ⟨k, told, ps, hk, rfl, rfl, hf, hF, hL, hsz, hB⟩ := hrel
    obtain ⟨wo, rfl⟩ : ∃ wo : World, wo = wr := ⟨_, rfl⟩
    by_cases hlt : k < xs.length
    · obtain ⟨b, off, c, hxk, rfl, hbl, hc1⟩ := (hx.below hB).get k hlt
      have hi1 : ((k : Nat) : Int) < (xs.length : Int) := by omega
      have HLO := Lib.hid (leastOutside_any told wo (HTab.out wo hB))
      have hle := lo_le told
      have hno := fun h => iFold_stop (n := n) hxk hf h
      have hgo := iFold_take (n := n) hxk
      rw [hf] at hgo
      have hgo : iFold n (xs.take (k + 1)) = iStep n ((told.val : Int), ps) c := hgo
      have hok : iOk n (told.val : Int) c = (rowIn n c && (hasB c (lo (told.val : Int)) && bits .and .i64 c (told.val : Int) == 0)) := rfl
      have hln := fun (cf : Fin 16) (h : cf.val < 2 ^ n) => has_ltn ⟨n, by omega⟩ cf h told
      obtain ⟨l, hlo⟩ : ∃ l, lo (told.val : Int) = l := ⟨_, rfl⟩
      have hstep : iStep n ((told.val : Int), ps) c = if iOk n (told.val : Int) c then some (bits .or .i64 (told.val : Int) c, joinTo c (lo (told.val : Int)) ps n) else none := rfl
      rw [hstep] at hgo
      rw [hlo] at HLO hle hok hln hgo
      cases hr : rowIn n c with
      | false =>
        rw [hr, Bool.false_and] at hok
        have HNO := Lib.hid (And.intro (hno hok) hB)
        have HS := Lib.hid (fun w => isSet_any c n h1 h4 w)
        rw [hr] at HS
        clear hno hok hgo hln hf hF hL hB hr hxk hlo hstep
        go_wp2_with fail
        refine HLO.out.mono ?_
        rintro e w' ⟨rfl, rfl⟩
        go_wp2_with fail
        refine (HS.out _).mono ?_
        rintro e w' ⟨rfl, rfl⟩
        go_wp2
        go_ret2
        exact ⟨HNO.out.2.alloc HNO.out.2.size _, .inr ⟨HNO.out.1, _, rfl⟩⟩
      | true =>
        rw [hr, Bool.true_and] at hok
        have HS := Lib.hid (fun w => isSet_any c n h1 h4 w)
        rw [hr] at HS
        obtain ⟨cn, hcn, rfl⟩ : ∃ m, m < 2 ^ n ∧ c = ((m : Nat) : Int) := by
          unfold rowIn at hr
          rw [Bool.and_eq_true] at hr
          have a := of_decide_eq_true hr.1
          have b := of_decide_eq_true hr.2
          have h2 : ((2 ^ n : Nat) : Int) = (2 : Int) ^ n := by simp
          exact ⟨c.toNat, by omega, by omega⟩
        have hp := pow16 h4
        have HH := Lib.hid (fun w => has_4 (cn : Int) l hle w)
        cases hh : hasB (cn : Int) l with
        | false =>
          rw [hh, Bool.false_and] at hok
          rw [hh] at HH
          have HNO := Lib.hid (And.intro (hno hok) hB)
          clear hno hok hgo hln hf hF hL hB hr hxk hlo hstep hh
          go_wp2_with fail
          refine HLO.out.mono ?_
          rintro e w' ⟨rfl, rfl⟩
          go_wp2_with fail
          refine (HS.out _).mono ?_
          rintro e w' ⟨rfl, rfl⟩
          go_wp2_with fail
          refine (HH.out _).mono ?_
          rintro e w' ⟨rfl, rfl⟩
          go_wp2
          go_ret2
          exact ⟨HNO.out.2.alloc HNO.out.2.size _, .inr ⟨HNO.out.1, _, rfl⟩⟩
        | true =>
          rw [hh, Bool.true_and] at hok
          rw [hh] at HH
          have hlt4 : l < n := hln ⟨cn, by omega⟩ hcn hh
          cases ha : (bits .and .i64 (cn : Int) (told.val : Int) == 0) with
          | false =>
            rw [ha] at hok
            have hne : (bits .and .i64 (cn : Int) (told.val : Int) != 0) = true := by simpa using ha
            have HNO := Lib.hid (And.intro (hno hok) hB)
            clear hno hok hgo hln hf hF hL hB hr hxk hlo hstep hh ha
            go_wp2_with fail
            refine HLO.out.mono ?_
            rintro e w' ⟨rfl, rfl⟩
            go_wp2_with fail
            refine (HS.out _).mono ?_
            rintro e w' ⟨rfl, rfl⟩
            go_wp2_with fail
            refine (HH.out _).mono ?_
            rintro e w' ⟨rfl, rfl⟩
            go_wp2
            go_ret2
            exact ⟨HNO.out.2.alloc HNO.out.2.size _, .inr ⟨HNO.out.1, _, rfl⟩⟩
          | true =>
            rw [ha] at hok
            have hne : (bits .and .i64 (cn : Int) (told.val : Int) != 0) = false := by simpa using ha
            rw [hok, if_pos rfl] at hgo
            obtain ⟨u, hu⟩ := or_16 told ⟨cn, by omega⟩
            have hu : bits .or .i64 (told.val : Int) (cn : Int) = (u.val : Int) := hu
            rw [hu] at hgo
            have HGO := Lib.hid hgo
            have HU := Lib.hid hu
            clear hno hok hgo hln hf hr hxk hlo hstep hh ha hu
            go_wp2_with fail
            refine HLO.out.mono ?_
            rintro e w' ⟨rfl, rfl⟩
            go_wp2_with fail
            refine (HS.out _).mono ?_
            rintro e w' ⟨rfl, rfl⟩
            go_wp2_with fail
            refine (HH.out _).mono ?_
            rintro e w' ⟨rfl, rfl⟩
            go_wp2
            go_loopw [46, 12] (fun j _ wr => ∃ m : Nat, m ≤ n ∧ j = .int .i64 m ∧ LinkW wr w.heap.size n (joinTo (cn : Int) l ps m) ∧ w.heap.size + 1 + n ≤ wr.heap.size ∧ Below w.heap.size w wr)
              (fun j _ _ => n - (intOf j).toNat)
            case atStart => exact ⟨0, Nat.zero_le _, rfl, hL, hsz, hB⟩
            case round =>
              clear hL hsz hB hc1 hbl
              obtain ⟨m, hm, rfl, hL, hsz, hB⟩ := hrel
              by_cases hlm : m < n
              · have hj := joinTo_succ (cn : Int) l ps m
                have HM := Lib.hid (fun w => has_any (cn : Int) m (by omega) w)
                cases hbm : hasB (cn : Int) m with
                | false =>
                  rw [hbm, if_neg (by simp)] at hj
                  rw [hbm] at HM
                  have HJ := Lib.hid hj
                  clear hj hbm
                  go_wp2_with fail
                  refine (HM.out _).mono ?_
                  rintro e w' ⟨rfl, rfl⟩
                  go_wp2
                  go_roundw
                  case rel => exact ⟨m + 1, by omega, by go_num, by rw [HJ.out]; exact hL, hsz, hB⟩
                  case measure => simp [intOf]; omega
                | true =>
                  rw [hbm, if_pos rfl] at hj
                  rw [hbm] at HM
                  have hFm := hF.joinTo (cn : Int) l (by omega) m (by omega)
                  have c1 := hL.row l hlt4
                  have c2 := hL.row m hlm
                  have HJ := Lib.hid hj
                  have HC := Lib.hid (fun (wz : World) (h : LinkW wz w.heap.size n (joinTo (cn : Int) l ps m)) => join_any hFm h4 l m hlt4 hlm wz h)
                  have HL := Lib.hid (And.intro hL (And.intro hsz (And.intro hB hFm)))
                  have hl1 : ((l : Nat) : Int) < (n : Int) := by omega
                  have hm1 : ((m : Nat) : Int) < (n : Int) := by omega
                  have hmo : Tryz.prog.follows .mixedOrders = true := by kernel_rfl
                  clear hj hbm hL hsz hB hFm
                  go_wp2_with fail
                  refine (HM.out _).mono ?_
                  rintro e w' ⟨rfl, rfl⟩
                  go_wp2
                  refine wp_region_still_tail 8 hmo (by kernel_rfl) ?_
                  simp only [List.take_succ_cons, List.take_zero, List.drop_succ_cons, List.drop_zero]
                  repeat still_step
                  refine wpStill_nil ?_
                  go_wp2_with fail
                  refine (HC.out wr.drew ⟨HL.out.1.row, HL.out.1.node⟩).mono ?_
                  rintro e w' ⟨rfl, q, rfl⟩
                  clear c1 c2
                  go_wp2
                  go_roundw
                  case rel =>
                    obtain ⟨hL, hsz, hB, hFm⟩ := HL.out
                    refine ⟨m + 1, by omega, by go_num, ?_, ?_, ?_⟩
                    · rw [HJ.out]
                      exact (hL.drewN _).join hFm h4 l m hlt4 hlm
                    · rw [joinW_size]
                      exact hsz
                    · exact joinW_below _ _ _ _ _ _ _ (by omega) (below_drewN hB _)
                  case measure => simp [intOf]; omega
              · obtain rfl : m = n := by omega
                have hFn := hF.joinTo (cn : Int) l (by omega) m (by omega)
                have HL := Lib.hid (And.intro hL (And.intro hsz (And.intro hB hFn)))
                clear hL hsz hB hFn
                go_wp2
                go_roundw
                case rel => exact ⟨k + 1, u, _, by omega, by go_num, rfl, HGO.out, HL.out.2.2.2, HL.out.1, HL.out.2.1, HL.out.2.2.1⟩
                case measure => simp [intOf]; omega
    · obtain rfl : k = xs.length := by omega
      rw [List.take_length] at hf
      have HA := Lib.hid (fun w => allPoints_any n h1 h4 w)
      by_cases ht : (told.val : Int) = ((2 ^ n - 1 : Nat) : Int)
      · have he : ((told.val : Int) != ((2 ^ n - 1 : Nat) : Int)) = false := by simp [ht]
        obtain ⟨z, hz⟩ : ∃ z : Int, ((2 ^ n - 1 : Nat) : Int) = z := ⟨_, rfl⟩
        rw [ht] at hf
        have HL := Lib.hid (And.intro hf (And.intro hF (And.intro hL (And.intro hsz hB))))
        rw [hz] at he HA
        clear hf hF hL hsz hB hz ht
        go_wp2_with fail
        refine (HA.out _).mono ?_
        rintro e w' ⟨rfl, rfl⟩
        go_wp2
        go_ret2
        exact ⟨HL.out.2.2.2.2, .inl ⟨ps, HL.out.1, HL.out.2.1, rfl, HL.out.2.2.1, HL.out.2.2.2.1⟩⟩
      · have he : ((told.val : Int) != ((2 ^ n - 1 : Nat) : Int)) = true := by simpa using ht
        have hres : iRes n xs = none := by
          unfold iRes
          rw [hf]
          show (if (told.val : Int) == ((2 ^ n - 1 : Nat) : Int) then _ else _) = none
          rw [if_neg (by simpa using ht)]
        obtain ⟨z, hz⟩ : ∃ z : Int, ((2 ^ n - 1 : Nat) : Int) = z := ⟨_, rfl⟩
        have HL := Lib.hid (And.intro hres hB)
        rw [hz] at he HA
        clear hf hF hL hsz hB hz ht hres
        go_wp2_with fail
        refine (HA.out _).mono ?_
        rintro e w' ⟨rfl, rfl⟩
        go_wp2
        go_ret2
        exact ⟨HL.out.2.alloc HL.out.2.size _, .inr ⟨HL.out.1, _, rfl⟩⟩
end Go.Proofs.YtebkeebgjjmdbaaGreatDoor

namespace Go.Proofs.YtebkeebgjjmdbaaGreatDoor
open Go.RowKit Go.Extern.Stop Go.Stop Go.Extern

theorem errAs_nil (t : Value) (w : World) : Calls Tryz.prog 23 #[.nilIface, t] w fun e w' => e = .returned (.bool false) ∧ w' = w := by
  go_enter Tryz.func23, Tryz.ntmps23
  go_wp2
  go_ret
  exact ⟨rfl, rfl⟩

/-! what reflection answers at this program's types: P, the type *partitionError; PP, **partitionError -/
abbrev handle (t : Nat) : Value := .pointer (some ⟨4, t, none⟩)
theorem Tryz.rValuePP (t : Addr) (w : World) : (ReflectliteValue.unpack (.iface 53 (.pointer (some t)))).run Tryz.prog w
    = .ok (.agg #[handle 53, .pointer (some ⟨w.heap.size, 0, none⟩), .int .u64 150]) (w.alloc (.cells #[.pointer (some t)] 53)) := by kernel_rfl
theorem Tryz.rTypePP (a : Addr) (w : World) : (ReflectliteValue.methodAny (ReflectliteValue.valueError "reflectlite.Value.Type" 0) (fun t _ _ _ => ReflectliteType.toType t) #[.agg #[handle 53, .pointer (some a), .int .u64 150]]).run Tryz.prog w
    = .ok (.iface 101 (.agg #[handle 53])) w := by kernel_rfl
theorem Tryz.rmKind (h : Value) (w : World) : (Go.method 265 101 (.agg #[h]) "Kind").run Tryz.prog w = .ok (116, h) w := by kernel_rfl
theorem Tryz.rmElem (h : Value) (w : World) : (Go.method 265 101 (.agg #[h]) "Elem").run Tryz.prog w = .ok (127, .agg #[h]) w := by kernel_rfl
theorem Tryz.rmImpl (h : Value) (w : World) : (Go.method 265 101 (.agg #[h]) "Implements").run Tryz.prog w = .ok (128, .agg #[h]) w := by kernel_rfl
theorem Tryz.rmAssign (h : Value) (w : World) : (Go.method 265 101 (.agg #[h]) "AssignableTo").run Tryz.prog w = .ok (125, .agg #[h]) w := by kernel_rfl
theorem Tryz.rKindPP (w : World) : ((ReflectliteType.abiMethod fun t => (fun a : Nat => Value.int IntKind.u8 (a : Int)) <$> Rtype.kind t) #[handle 53]).run Tryz.prog w = .ok (.int .u8 22) w := by kernel_rfl
theorem Tryz.rKindP (w : World) : ((ReflectliteType.abiMethod fun t => (fun a : Nat => Value.int IntKind.u8 (a : Int)) <$> Rtype.kind t) #[handle 51]).run Tryz.prog w = .ok (.int .u8 22) w := by kernel_rfl
theorem Tryz.rElemPP (w : World) : (ReflectliteType.method ReflectliteType.elem #[.agg #[handle 53]]).run Tryz.prog w = .ok (.iface 101 (.agg #[handle 51])) w := by kernel_rfl
theorem Tryz.rImplP (w : World) : (ReflectliteType.relation "Implements" ReflectliteType.implements_ #[.agg #[handle 51], .iface 101 (.agg #[handle 48])]).run Tryz.prog w = .ok (.bool true) w := by kernel_rfl
theorem Tryz.rTypeOfP (v : Value) (w : World) : (ReflectliteType.typeOf #[.iface 51 v]).run Tryz.prog w = .ok (.iface 101 (.agg #[handle 51])) w := by kernel_rfl
theorem Tryz.rAssignP (w : World) : (ReflectliteType.relation "AssignableTo" ReflectliteType.assignableTo #[.agg #[handle 51], .iface 101 (.agg #[handle 51])]).run Tryz.prog w = .ok (.bool true) w := by kernel_rfl
theorem Tryz.rValueP (e : Addr) (w : World) : (ReflectliteValue.unpack (.iface 51 (.pointer (some e)))).run Tryz.prog w
    = .ok (.agg #[handle 51, .pointer (some ⟨w.heap.size, 0, none⟩), .int .u64 150]) (w.alloc (.cells #[.pointer (some e)] 51)) := by kernel_rfl
theorem rl_method (z : Sem Value) (f : TypeId → Addr → Nat → Nat → Sem Value) (v : Value) :
    ReflectliteValue.method z f #[v] = (do match ← ReflectliteValue.parts v with | none => z | some (t, a, fl) => f t a fl (fl % 32)) := rfl
theorem Tryz.rPartsPP (a : Addr) (w : World) : (ReflectliteValue.parts (.agg #[handle 53, .pointer (some a), .int .u64 150])).run Tryz.prog w = .ok (some (53, a, 150)) w := by kernel_rfl
theorem Tryz.rIsNil (a p : Addr) (W : World) (ha : W.cell? a = some (.pointer (some p))) :
    (ReflectliteValue.method (ReflectliteValue.valueError "reflectlite.Value.IsNil" 0) ReflectliteValue.isNil #[.agg #[handle 53, .pointer (some a), .int .u64 150]]).run Tryz.prog W = .ok (.bool false) W := by
  rw [rl_method]
  simp only [Sem.run_bind, Tryz.rPartsPP, Result.andThen]
  simp [ReflectliteValue.isNil, loadVar, isAgg, underlying, Tryz.underlying53, ha, Result.andThen]
theorem Tryz.rElemOf (w : World) : (Rtype.elem? 53).run Tryz.prog w = .ok (some 51) w := by kernel_rfl
theorem Tryz.rMk (p : Addr) (w : World) : (ReflectliteValue.mk 51 p ReflectliteValue.flagAddr).run Tryz.prog w = .ok (.agg #[handle 51, .pointer (some p), .int .u64 406]) w := by kernel_rfl
theorem Tryz.rElemV (a p : Addr) (W : World) (ha : W.cell? a = some (.pointer (some p))) :
    (ReflectliteValue.method (ReflectliteValue.valueError "reflectlite.Value.Elem" 0) ReflectliteValue.elem #[.agg #[handle 53, .pointer (some a), .int .u64 150]]).run Tryz.prog W
      = .ok (.agg #[handle 51, .pointer (some p), .int .u64 406]) W := by
  rw [rl_method]
  simp only [Sem.run_bind, Tryz.rPartsPP, Result.andThen]
  simp [ReflectliteValue.elem, loadVar, isAgg, underlying, Tryz.underlying53, ha, Result.andThen, Tryz.rElemOf, Tryz.rMk]
theorem rl_set (v x : Value) : ReflectliteValue.set #[v, x] = (do
    let (some (dst, a, fl), some (src, b, _)) := (← ReflectliteValue.parts v, ← ReflectliteValue.parts x)
      | unsupported (.noEntry "extern/(internal/reflectlite.Value).Set.zeroValue")
    if fl / ReflectliteValue.flagAddr % 2 == 0 then unsupported (.noEntry "extern/(internal/reflectlite.Value).Set.unaddressable")
    let val ← loadVar src b
    if ← Rtype.directlyAssignable dst src then storeVar dst a val
    else if ← Rtype.implements dst src then
      if (← Rtype.kind src) == 20 then
        match val with
        | .nilIface => unsupported (.noEntry "extern/reflectlite: a nil value of one interface type handed on as a value of another")
        | _ => storeVar dst a val
      else storeVar dst a (.iface src val)
    else panicString ("reflectlite.Set: value of type " ++ (← Rtype.spelt src) ++ " is not assignable to type " ++ (← Rtype.spelt dst))
    pure (.tuple #[])) := rfl
theorem Tryz.rPartsA (a : Addr) (w : World) : (ReflectliteValue.parts (.agg #[handle 51, .pointer (some a), .int .u64 406])).run Tryz.prog w = .ok (some (51, a, 406)) w := by kernel_rfl
theorem Tryz.rPartsP (a : Addr) (w : World) : (ReflectliteValue.parts (.agg #[handle 51, .pointer (some a), .int .u64 150])).run Tryz.prog w = .ok (some (51, a, 150)) w := by kernel_rfl
theorem Tryz.rDirect (w : World) : (Rtype.directlyAssignable 51 51).run Tryz.prog w = .ok true w := by kernel_rfl
theorem Tryz.rSet (ta b e : Addr) (old : Value) (W : World) (hb : W.cell? b = some (.pointer (some e))) (ht : W.cell? ta = some old) (hf : W.frozen? ta = false) :
    (ReflectliteValue.set #[.agg #[handle 51, .pointer (some ta), .int .u64 406], .agg #[handle 51, .pointer (some b), .int .u64 150]]).run Tryz.prog W
      = .ok (.tuple #[]) (W.setCell ta (.pointer (some e))) := by
  rw [rl_set]
  simp only [Sem.run_bind, Tryz.rPartsA, Tryz.rPartsP, Result.andThen]
  simp [ReflectliteValue.flagAddr, loadVar, isAgg, underlying, Tryz.underlying51, hb, Result.andThen, Tryz.rDirect, storeVar, Value.cells, storeCells, Addr.add]
  rw [run_store Tryz.prog W ta _ _ (by rfl)]
  simp [ht, hf]

set_option maxHeartbeats 8000000 in
theorem errAs_hit (e : Addr) (tb : Nat) (old : Value) (w : World) (hg : w.cell? ⟨0, 0, none⟩ = some (.iface 101 (.agg #[handle 48]))) (ht0 : w.cell? ⟨tb, 0, none⟩ = some old) (hf0 : w.frozen? ⟨tb, 0, none⟩ = false) :
    Calls Tryz.prog 23 #[.iface 51 (.pointer (some e)), .iface 53 (.pointer (some ⟨tb, 0, none⟩))] w fun ev w' => ev = .returned (.bool true) ∧ Below tb w w' := by
  have h6 := @run_callFunc_extern Tryz.prog 46 _ (fun args => ReflectliteValue.unpack (args.getD 0 (.tuple #[]))) Tryz.func46 (by kernel_rfl) (by kernel_rfl) (by kernel_rfl) (by kernel_rfl)
  have h7 := @run_callFunc_extern Tryz.prog 47 _ (ReflectliteValue.methodAny (ReflectliteValue.valueError "reflectlite.Value.Type" 0) (fun t _ _ _ => ReflectliteType.toType t)) Tryz.func47 (by kernel_rfl) (by kernel_rfl) (by kernel_rfl) (by kernel_rfl)
  have h8 := @run_callFunc_extern Tryz.prog 48 _ (ReflectliteValue.method (ReflectliteValue.valueError "reflectlite.Value.IsNil" 0) ReflectliteValue.isNil) Tryz.func48 (by kernel_rfl) (by kernel_rfl) (by kernel_rfl) (by kernel_rfl)
  have h27 := @run_callFunc_extern Tryz.prog 116 _ (ReflectliteType.abiMethod fun t => do pure (.int .u8 (← Rtype.kind t))) Tryz.func116 (by kernel_rfl) (by kernel_rfl) (by kernel_rfl) (by kernel_rfl)
  have h37 := @run_callFunc_extern Tryz.prog 127 _ (ReflectliteType.method ReflectliteType.elem) Tryz.func127 (by kernel_rfl) (by kernel_rfl) (by kernel_rfl) (by kernel_rfl)
  have h38 := @run_callFunc_extern Tryz.prog 128 _ (ReflectliteType.relation "Implements" ReflectliteType.implements_) Tryz.func128 (by kernel_rfl) (by kernel_rfl) (by kernel_rfl) (by kernel_rfl)
  have h10 := @run_callFunc_extern Tryz.prog 62 _ ReflectliteType.typeOf Tryz.func62 (by kernel_rfl) (by kernel_rfl) (by kernel_rfl) (by kernel_rfl)
  have h35 := @run_callFunc_extern Tryz.prog 125 _ (ReflectliteType.relation "AssignableTo" ReflectliteType.assignableTo) Tryz.func125 (by kernel_rfl) (by kernel_rfl) (by kernel_rfl) (by kernel_rfl)
  have h11 := @run_callFunc_extern Tryz.prog 63 _ (ReflectliteValue.method (ReflectliteValue.valueError "reflectlite.Value.Elem" 0) ReflectliteValue.elem) Tryz.func63 (by kernel_rfl) (by kernel_rfl) (by kernel_rfl) (by kernel_rfl)
  have h12 := @run_callFunc_extern Tryz.prog 64 _ ReflectliteValue.set Tryz.func64 (by kernel_rfl) (by kernel_rfl) (by kernel_rfl) (by kernel_rfl)
  have tO := Tryz.rTypeOfP
  have mA := Tryz.rmAssign
  have a25 := Tryz.rAssignP
  have v25 := Tryz.rValueP
  have f6 := Tryz.rValuePP
  have f7 := Tryz.rTypePP
  have mK := Tryz.rmKind
  have mE := Tryz.rmElem
  have mI := Tryz.rmImpl
  have k27 := Tryz.rKindPP
  have k25 := Tryz.rKindP
  have e27 := Tryz.rElemPP
  have i25 := Tryz.rImplP
  obtain ⟨t, ht⟩ : ∃ t : Addr, (⟨tb, 0, none⟩ : Addr) = t := ⟨_, rfl⟩
  have htb : t.block = tb := by rw [← ht]
  rw [ht] at ht0 hf0 ⊢
  have n8 := Tryz.rIsNil ⟨w.heap.size, 0, none⟩ t ((w.alloc (.cells #[.pointer (some t)] 53)).alloc (.cells #[handle 53, .pointer (some ⟨w.heap.size, 0, none⟩), .int .u64 150] 82)) (by simp)
  have hlt : 0 < w.heap.size := by
    rcases Nat.lt_or_ge 0 w.heap.size with h | h
    · exact h
    · simp [World.cell?, Array.getElem?_eq_none h] at hg
  have hg2 : ((w.alloc (.cells #[.pointer (some t)] 53)).alloc (.cells #[handle 53, .pointer (some ⟨w.heap.size, 0, none⟩), .int .u64 150] 82)).cell? ⟨0, 0, none⟩ = some (.iface 101 (.agg #[handle 48])) := by
    rw [World.cell?_alloc_lt _ _ ⟨0, 0, none⟩ (by simp), World.cell?_alloc_lt _ _ ⟨0, 0, none⟩ hlt]; exact hg
  have htl : t.block < w.heap.size := by
    rcases Nat.lt_or_ge t.block w.heap.size with h | h
    · exact h
    · simp [World.cell?, Array.getElem?_eq_none h] at ht0
  have el := Tryz.rElemV ⟨w.heap.size, 0, none⟩ t (((w.alloc (.cells #[.pointer (some t)] 53)).alloc (.cells #[handle 53, .pointer (some ⟨w.heap.size, 0, none⟩), .int .u64 150] 82)).alloc (.cells #[handle 53, .pointer (some ⟨w.heap.size, 0, none⟩), .int .u64 150] 82)) (by rw [World.cell?_alloc_lt _ _ ⟨w.heap.size, 0, none⟩ (by simp; omega)]; simp)
  have st := Tryz.rSet t ⟨w.heap.size + 1 + 1 + 1, 0, none⟩ e old ((((w.alloc (.cells #[.pointer (some t)] 53)).alloc (.cells #[handle 53, .pointer (some ⟨w.heap.size, 0, none⟩), .int .u64 150] 82)).alloc (.cells #[handle 53, .pointer (some ⟨w.heap.size, 0, none⟩), .int .u64 150] 82)).alloc (.cells #[.pointer (some e)] 51))
    (by rw [World.cell?_alloc_at _ _ _ _ (by simp)]; rfl)
    (by rw [World.cell?_alloc_lt _ _ t (by simp; omega), World.cell?_alloc_lt _ _ t (by simp; omega), World.cell?_alloc_lt _ _ t (by simp; omega), World.cell?_alloc_lt _ _ t htl]; exact ht0)
    (by rw [World.frozen?_alloc_old _ _ t (by simp; omega), World.frozen?_alloc_old _ _ t (by simp; omega), World.frozen?_alloc_old _ _ t (by simp; omega), World.frozen?_alloc_old _ _ t (Nat.ne_of_lt htl)]; exact hf0)
  have hB : Below tb w (((((w.alloc (.cells #[.pointer (some t)] 53)).alloc (.cells #[handle 53, .pointer (some ⟨w.heap.size, 0, none⟩), .int .u64 150] 82)).alloc (.cells #[handle 53, .pointer (some ⟨w.heap.size, 0, none⟩), .int .u64 150] 82)).alloc (.cells #[.pointer (some e)] 51)).setCell t (.pointer (some e))) :=
    ((((Below.refl tb w).alloc (by omega) _).alloc (by simp; omega) _).alloc (by simp; omega) _).alloc (by simp; omega) _ |>.setCell (p := t) (by omega) _
  have HB := Lib.hid hB
  clear hB htb ht
  go_enter Tryz.func23, Tryz.ntmps23
  go_wp2
  refine wp_loop_rounds 1 ?_
  rw [rounds_succ]
  go_wp2
  go_ret
  exact ⟨rfl, HB.out⟩
end Go.Proofs.YtebkeebgjjmdbaaGreatDoor

namespace Go.Proofs.YtebkeebgjjmdbaaGreatDoor
open Go.RowKit

/-- the variables that are read -/
structure GlW (w : World) : Prop where
  tab : TabW w
  et : w.cell? ⟨0, 0, none⟩ = some (.iface 101 (.agg #[handle 48]))
  lt : 2 < w.heap.size
  lt2 : 0 < w.heap.size
theorem GlW.below {B : Nat} {w w' : World} (h : GlW w) (hb : Below B w w') (hB : w.heap.size ≤ B) : GlW w' :=
  ⟨h.tab.keep (hb.block _ (Nat.lt_of_lt_of_le h.lt hB)), (World.cell?_of_block (hb.block _ (Nat.lt_of_lt_of_le h.lt2 hB))).trans h.et,
    Nat.lt_of_lt_of_le h.lt (by have := hb.size; have := h.lt; omega), Nat.lt_of_lt_of_le h.lt2 (by have := hb.size; have := h.lt; omega)⟩

/-- what comes of a number of points and a list of sets -/
def eoRes (n : Int) (xs : List Int) : Option (List Int) := if inB n 1 4 then sRes n.toNat xs else none
def eoR (n : Int) (xs : List Int) : List Int := (eoRes n xs).getD []
def eoB (n : Int) (xs : List Int) : Bool := (eoRes n xs).isSome
theorem eo_off {n : Int} {xs : List Int} (h : inB n 1 4 = false) : eoR n xs = [] ∧ eoB n xs = false := by
  unfold eoR eoB eoRes
  rw [h]
  exact ⟨rfl, rfl⟩
theorem eo_no {n : Nat} {xs : List Int} (h : sRes n xs = none) : eoR (n : Int) xs = [] ∧ eoB (n : Int) xs = false := by
  have h2 : eoRes (n : Int) xs = none := by
    unfold eoRes
    rw [Int.toNat_natCast, h]
    split <;> rfl
  unfold eoR eoB
  rw [h2]
  exact ⟨rfl, rfl⟩
theorem eo_yes {n : Nat} {xs r : List Int} (h1 : 1 ≤ n) (h4 : n ≤ 4) (h : sRes n xs = some r) : eoR (n : Int) xs = r ∧ eoB (n : Int) xs = true := by
  have hi : inB (n : Int) 1 4 = true := by
    unfold inB
    exact decide_eq_true ⟨by omega, by omega⟩
  have h2 : eoRes (n : Int) xs = some r := by
    unfold eoRes
    rw [hi, if_pos rfl, Int.toNat_natCast, h]
  unfold eoR eoB
  rw [h2]
  exact ⟨rfl, rfl⟩
theorem inB_nat {n : Int} (h : inB n 1 4 = true) : ∃ m : Nat, n = (m : Int) ∧ 1 ≤ m ∧ m ≤ 4 := by
  unfold inB at h
  have h := of_decide_eq_true h
  exact ⟨n.toNat, by omega, by omega, by omega⟩

theorem implEquOf_off (n : Int) (v : Value) (xs : List Int) (w : World) (hn : inB n 1 4 = false) :
    Calls Tryz.prog 9 #[.int .i64 n, v] w (Gave w (eoR n xs) (eoB n xs)) := by
  have H1 := isCount_any n w
  rw [hn] at H1
  have HC := Lib.hid H1
  have HE := Lib.hid (eo_off (xs := xs) hn)
  clear H1 hn
  go_enter Tryz.func9, Tryz.ntmps9
  go_wp2_with fail
  refine HC.out.mono ?_
  rintro e w' ⟨rfl, rfl⟩
  go_wp2
  go_ret2
  rw [HE.out.1, HE.out.2]
  exact ⟨.slice none 0 0, rfl, World.ownsRow_nil _ _ _ _, Below.refl _ _⟩

set_option maxHeartbeats 4000000 in
theorem implEquOf_on (n : Nat) (h1 : 1 ≤ n) (h4 : n ≤ 4) (ao : Option Addr) (ca : Nat) (xs : List Int) (w : World) (hl : xs.length ≤ 1048576) (hx : Rd w ao xs) (G : GlW w) :
    Calls Tryz.prog 9 #[.int .i64 n, .slice ao xs.length ca] w (Gave w (eoR n xs) (eoB n xs)) := by
  have H1 := isCount_any (n : Int) w
  rw [show inB (n : Int) 1 4 = true by unfold inB; exact decide_eq_true ⟨by omega, by omega⟩] at H1
  have HC := Lib.hid H1
  have HL := Lib.hid (linkedByPartition_any n h1 h4 ao ca xs w hl hx G.tab G.lt)
  have HG := Lib.hid (fun (wr : World) (hb : Below w.heap.size w wr) => G.below hb (Nat.le_refl _))
  clear H1 hx G
  go_enter Tryz.func9, Tryz.ntmps9
  go_wp2_with fail
  refine HC.out.mono ?_
  rintro e w' ⟨rfl, rfl⟩
  go_wp2_with fail
  refine HL.out.mono ?_
  rintro e w1 ⟨hB, hP⟩
  rcases hP with ⟨ps, hf, hF, rfl, hL, hsz⟩ | ⟨hres, a, rfl⟩
  · have hs : sRes n xs = some (forestR n ps) := by
      rw [res_eq h1 h4]
      unfold iRes
      rw [hf]
      show (if (((2 ^ n - 1 : Nat) : Int) == ((2 ^ n - 1 : Nat) : Int)) = true then _ else _) = _
      rw [if_pos (by simp)]
    have HE := Lib.hid (eo_yes h1 h4 hs)
    have HQ := Lib.hid (fun (wr : World) (h : LinkW wr w.heap.size n ps) => equivalence_any hF h4 wr h)
    have HLW := Lib.hid (And.intro hL (And.intro hsz hB))
    clear hf hF hL hsz hB hs
    go_wp2_with fail
    refine (errAs_nil _ _).mono ?_
    rintro e w2 ⟨rfl, hw⟩
    have hL2 := HLW.out.1.below ((Below.refl w1.heap.size w1).alloc (Nat.le_refl _) (.cells #[.pointer none] 51)) (by have := HLW.out.2.1; omega)
    have hB2 := HLW.out.2.2.alloc HLW.out.2.2.size (.cells #[.pointer none] 51)
    rw [← hw] at hL2 hB2
    have hsz2 : w.heap.size + 1 + n ≤ w2.heap.size := by rw [hw]; have := HLW.out.2.1; simp; omega
    clear hw
    have HQ2 := Lib.hid (HQ.out w2 hL2 hsz2)
    clear hL2 hsz2
    go_wp2_with fail
    refine HQ2.out.mono ?_
    rintro e w3 ⟨rfl, hB3⟩
    go_wp2_with fail
    refine (list_any (forestR n ps) w3 (by rw [show (forestR n ps).length = n from testAcc_len _ _ _]; exact h4)).mono ?_
    rintro e w4 ⟨v, rfl, ho, hB4⟩
    go_wp2
    go_ret2
    have hB23 := hB2.trans (hB3.mono hB2.size)
    rw [HE.out.1, HE.out.2]
    exact ⟨v, rfl, own_mono ho hB23.size, hB23.trans (hB4.mono hB23.size)⟩
  · have hs : sRes n xs = none := by rw [res_eq h1 h4]; exact hres
    have HE := Lib.hid (eo_no hs)
    have HB := Lib.hid (And.intro hB (HG.out w1 hB))
    clear hs hres hB
    have HA := Lib.hid (fun (W : World) (hW : W = w1.alloc (.cells #[.pointer none] 51)) => errAs_hit ⟨a, 0, none⟩ w1.heap.size (.pointer none) W
      (by rw [hW]; exact (HB.out.2.below ((Below.refl w1.heap.size w1).alloc (Nat.le_refl _) (.cells #[.pointer none] 51)) (Nat.le_refl _)).et)
      (by rw [hW]; simp) (by rw [hW]; simp))
    go_wp2_with fail
    refine (HA.out _ rfl).mono ?_
    rintro e w2 ⟨rfl, hb2⟩
    go_wp2
    go_ret2
    rw [HE.out.1, HE.out.2]
    have hb := HB.out.1.alloc HB.out.1.size (.cells #[.pointer none] 51)
    exact ⟨.slice none 0 0, rfl, World.ownsRow_nil _ _ _ _, hb.trans (hb2.mono HB.out.1.size)⟩

theorem implEquOf_any (n : Int) (ao : Option Addr) (ca : Nat) (xs : List Int) (w : World) (hl : xs.length ≤ 1048576) (hx : Rd w ao xs) (G : GlW w) :
    Calls Tryz.prog 9 #[.int .i64 n, .slice ao xs.length ca] w (Gave w (eoR n xs) (eoB n xs)) := by
  cases hn : inB n 1 4 with
  | false => exact implEquOf_off n _ xs w hn
  | true =>
    obtain ⟨m, rfl, h1, h4⟩ := inB_nat hn
    exact implEquOf_on m h1 h4 ao ca xs w hl hx G
end Go.Proofs.YtebkeebgjjmdbaaGreatDoor

namespace Go.Proofs.YtebkeebgjjmdbaaGreatDoor
open Go.RowKit

theorem sFold_take {n : Nat} {xs : List Int} {k : Nat} {c : Int} (h : xs[k]? = some c) : sFold n (xs.take (k + 1)) = (sFold n (xs.take k)).bind fun st => sStep n st c := by
  rw [List.take_add_one, h]
  exact sFold_snoc n _ c
theorem sFold_stop {n : Nat} {xs : List Int} {k : Nat} {c : Int} {t : Int} {ps : List Int} (h : xs[k]? = some c) (hf : sFold n (xs.take k) = some (t, ps)) (hk : sOk n t c = false) : sRes n xs = none := by
  have h1 : sFold n (xs.take (k + 1)) = none := by
    rw [sFold_take h, hf]
    show sStep n (t, ps) c = none
    unfold sStep
    rw [show (t, ps).1 = t from rfl, hk]
    rfl
  have h2 : sFold n xs = none := by
    have := sFold_app n (xs.take (k + 1)) (xs.drop (k + 1)) h1
    rwa [List.take_append_drop] at this
  unfold sRes
  rw [h2]
theorem own_cls (xs : List Int) : ownL xs = clsL xs := rfl

theorem specEquOf_off (n : Int) (v : Value) (xs : List Int) (w : World) (hn : inB n 1 4 = false) :
    Calls Tryz.prog 13 #[.int .i64 n, v] w (Gave w (eoR n xs) (eoB n xs)) := by
  have H1 := l6In_any n 1 4 w
  rw [hn] at H1
  have HC := Lib.hid H1
  have HE := Lib.hid (eo_off (xs := xs) hn)
  clear H1 hn
  go_enter Tryz.func13, Tryz.ntmps13
  go_wp2_with fail
  refine HC.out.mono ?_
  rintro e w' ⟨rfl, rfl⟩
  go_wp2
  go_ret2
  rw [HE.out.1, HE.out.2]
  exact ⟨_, rfl, row_lit0 _, (Below.refl _ _).alloc (Nat.le_refl _) _⟩

set_option maxRecDepth 20000 in
set_option maxHeartbeats 8000000 in
theorem specEquOf_on (n : Nat) (h1 : 1 ≤ n) (h4 : n ≤ 4) (ao : Option Addr) (ca : Nat) (xs : List Int) (w : World) (hl : xs.length ≤ 1048576) (hx : Rd w ao xs) :
    Calls Tryz.prog 13 #[.int .i64 n, .slice ao xs.length ca] w (Gave w (eoR n xs) (eoB n xs)) := by
  obtain ⟨i0, hi, hz0, hz1, hz2⟩ := info_parts Tryz.info3
  have H1 := l6In_any (n : Int) 1 4 w
  rw [show inB (n : Int) 1 4 = true by unfold inB; exact decide_eq_true ⟨by omega, by omega⟩] at H1
  have HC := Lib.hid H1
  have HT := Lib.hid (fun (x : Int) (wr : World) => l6In_any x 1 (wrap64 (wrap64 (2 ^ n) - 1)) wr)
  clear H1
  go_enter Tryz.func13, Tryz.ntmps13
  go_wp2_with fail
  refine HC.out.mono ?_
  rintro e w' ⟨rfl, rfl⟩
  go_wp2_with (at_make; refine wpList_make_full _ rfl _ _ 23 rfl w.heap.size 3 i0 (.int .i64 0) 1 Tryz.underlying23 hi hz0 hz1 _ _ _ _ n rfl rfl rfl rfl ?c1 ?c2 ?c3 ?_)
  case c1 => rw [hz2]; omega
  case c2 => unfold maxLen; omega
  case c3 => exact Nat.le_refl _
  intro w1 hown hgrow
  have hB : Below w.heap.size w w1 := (Below.refl _ _).grown hgrow (Nat.le_refl _) (by simp)
  rw [toList_madeCells_one] at hown
  have ho1 : w1.ownsRow w.heap.size 3 1 (.slice (some ⟨w.heap.size, 0, none⟩) n n) n ((List.replicate n (0 : Int)).map (Value.int .i64)) := by simpa using hown
  clear hown hgrow
  go_wp2
  go_loopw [7, 8, 9, 10] (fun s i _ _ wr => ∃ (k : Nat) (told : Fin 16) (out : List Int), k ≤ xs.length ∧ i = .int .i64 k ∧ s = .int .i64 (told.val : Int) ∧ out.length = n ∧ sFold n (xs.take k) = some ((told.val : Int), out) ∧ wr.ownsRow w.heap.size 3 1 (.slice (some ⟨w.heap.size, 0, none⟩) n n) n (out.map (Value.int .i64)) ∧ Below w.heap.size w wr)
    (fun _ i _ _ _ => xs.length - (intOf i).toNat)
  case atStart => exact ⟨0, 0, List.replicate n 0, Nat.zero_le _, rfl, rfl, List.length_replicate, rfl, ho1, hB⟩
  case round =>
    clear ho1 hB
    obtain ⟨k, told, out, hk, rfl, rfl, hol, hf, ho, hB⟩ := hrel
    obtain ⟨wo, rfl⟩ : ∃ wo : World, wo = wr := ⟨_, rfl⟩
    by_cases hlt : k < xs.length
    · obtain ⟨b, off, c, hxk, rfl, hbl, hc1⟩ := (hx.below hB).get k hlt
      have hi1 : ((k : Nat) : Int) < (xs.length : Int) := by omega
      have hno := fun h => sFold_stop (n := n) hxk hf h
      have hgo := sFold_take (n := n) hxk
      rw [hf] at hgo
      have hgo : sFold n (xs.take (k + 1)) = sStep n ((told.val : Int), out) c := hgo
      have hok : sOk n (told.val : Int) c = (inB c 1 (wrap64 (wrap64 (2 ^ n) - 1)) && bits .and .i64 c (told.val : Int) == 0) := rfl
      have hstep : sStep n ((told.val : Int), out) c = if sOk n (told.val : Int) c then some (bits .or .i64 (told.val : Int) c, putTo c out n) else none := rfl
      rw [hstep] at hgo
      have hrange := fun h => sOk_range (t := (told.val : Int)) (c := c) h1 h4 h
      have HS := HT.out c
      cases hr : inB c 1 (wrap64 (wrap64 (2 ^ n) - 1)) with
      | false =>
        rw [hr, Bool.false_and] at hok
        rw [hr] at HS
        have HS := Lib.hid HS
        have HNO := Lib.hid (And.intro (eo_no (hno hok)) hB)
        clear hno hok hgo hf ho hB hr hxk hstep hol hrange
        go_wp2_with fail
        refine (HS.out _).mono ?_
        rintro e w' ⟨rfl, rfl⟩
        go_wp2
        go_ret2
        rw [HNO.out.1.1, HNO.out.1.2]
        exact ⟨_, rfl, own_mono (row_lit0 _) HNO.out.2.size, HNO.out.2.alloc HNO.out.2.size _⟩
      | true =>
        rw [hr, Bool.true_and] at hok
        rw [hr] at HS
        have HS := Lib.hid HS
        cases ha : (bits .and .i64 c (told.val : Int) == 0) with
        | false =>
          rw [ha] at hok
          have hne : (bits .and .i64 c (told.val : Int) != 0) = true := by simpa using ha
          have HNO := Lib.hid (And.intro (eo_no (hno hok)) hB)
          clear hno hok hgo hf ho hB hr hxk hstep hol hrange ha
          go_wp2_with fail
          refine (HS.out _).mono ?_
          rintro e w' ⟨rfl, rfl⟩
          go_wp2
          go_ret2
          rw [HNO.out.1.1, HNO.out.1.2]
          exact ⟨_, rfl, own_mono (row_lit0 _) HNO.out.2.size, HNO.out.2.alloc HNO.out.2.size _⟩
        | true =>
          rw [ha] at hok
          have hne : (bits .and .i64 c (told.val : Int) != 0) = false := by simpa using ha
          rw [hok, if_pos rfl] at hgo
          obtain ⟨cn, hcn, rfl⟩ := hrange hok
          have hp := pow16 h4
          obtain ⟨u, hu⟩ := or_16 told ⟨cn, by omega⟩
          have hu : bits .or .i64 (told.val : Int) (cn : Int) = (u.val : Int) := hu
          rw [hu] at hgo
          have HGO := Lib.hid hgo
          have HOL := Lib.hid hol
          clear hno hok hgo hf hr hxk hstep ha hol hrange
          go_wp2_with fail
          refine (HS.out _).mono ?_
          rintro e w' ⟨rfl, rfl⟩
          go_wp2
          go_loopw [10] (fun j wr => ∃ m : Nat, m ≤ n ∧ j = .int .i64 m ∧ wr.ownsRow w.heap.size 3 1 (.slice (some ⟨w.heap.size, 0, none⟩) n n) n ((putTo (cn : Int) out m).map (Value.int .i64)) ∧ Below w.heap.size w wr)
            (fun j _ => n - (intOf j).toNat)
          case atStart => exact ⟨0, Nat.zero_le _, rfl, ho, hB⟩
          case round =>
            clear ho hB hc1 hbl
            obtain ⟨m, hm, rfl, ho, hB⟩ := hrel
            by_cases hlm : m < n
            · have hj := putTo_succ (cn : Int) out m
              have hm1 : ((m : Nat) : Int) < (n : Int) := by omega
              cases hbm : bitB (cn : Int) m with
              | false =>
                rw [hbm, if_neg (by simp)] at hj
                unfold bitB at hbm
                have HJ := Lib.hid hj
                clear hj
                go_wp2
                go_roundw
                case rel => exact ⟨m + 1, by omega, by go_num, by rw [HJ.out]; exact ho, hB⟩
                case measure => simp [intOf]; omega
              | true =>
                rw [hbm, if_pos rfl] at hj
                unfold bitB at hbm
                have HJ := Lib.hid hj
                have hc2 := ho.cellAt m (by omega)
                have hf2 := ho.frozenAt m
                rw [List.getElem?_map, rowAt_get (by rw [putTo_len, HOL.out]; exact hlm)] at hc2
                replace hc2 : wr.cell? ⟨w.heap.size, m, none⟩ = some (.int .i64 (rowAt (putTo (cn : Int) out m) m)) := hc2
                clear hj
                go_wp2
                go_roundw
                case rel =>
                  refine ⟨m + 1, by omega, by go_num, ?_, hB.setCell (Nat.le_refl _) _⟩
                  have h := (ho.stored m (.int .i64 (cn : Int))).1
                  rw [← List.map_set, ← HJ.out] at h
                  exact h
                case measure => simp [intOf]; omega
            · obtain rfl : m = n := by omega
              go_wp2
              go_roundw
              case rel => exact ⟨k + 1, u, _, by omega, by go_num, rfl, by rw [putTo_len]; exact HOL.out, HGO.out, ho, hB⟩
              case measure => simp [intOf]; omega
    · obtain rfl : k = xs.length := by omega
      rw [List.take_length] at hf
      have hres : sRes n xs = if (told.val : Int) == wrap64 (wrap64 (2 ^ n) - 1) && decide (clsL out = xs) then some out else none := by
        unfold sRes
        rw [hf]
        rfl
      cases ht : ((told.val : Int) == wrap64 (wrap64 (2 ^ n) - 1)) with
      | false =>
        have hne : ((told.val : Int) != wrap64 (wrap64 (2 ^ n) - 1)) = true := by simpa using ht
        rw [ht, Bool.false_and, if_neg (by simp)] at hres
        have HNO := Lib.hid (And.intro (eo_no hres) hB)
        clear hres hB ho hf ht hol
        go_wp2
        go_ret2
        rw [HNO.out.1.1, HNO.out.1.2]
        exact ⟨_, rfl, own_mono (row_lit0 _) HNO.out.2.size, HNO.out.2.alloc HNO.out.2.size _⟩
      | true =>
        have hne : ((told.val : Int) != wrap64 (wrap64 (2 ^ n) - 1)) = false := by simpa using ht
        rw [ht, Bool.true_and] at hres
        have HLC := Lib.hid (fun wr h => l4Classes_any (some ⟨w.heap.size, 0, none⟩) n out wr (by rw [hol]; exact h4) h)
        have HEQ := Lib.hid (fun (bo : Option Addr) (cb : Nat) (wr : World) h h' => l2Equal_any bo ao cb ca (clsL out) xs wr (Nat.le_trans (clsTo_le _ _) (by rw [hol]; omega)) hl h h')
        rw [hol] at HLC
        have hrd : Rd wo (some ⟨w.heap.size, 0, none⟩) out := by
          have ho' := ho
          rw [show n = out.length from hol.symm] at ho'
          obtain ⟨a, c, he, hr⟩ := row_rd ho'
          cases he
          exact hr
        have hxr := hx.below hB
        have HHO := Lib.hid (And.intro ho hB)
        have hbs := hB.size
        clear ho hB hf ht hx
        go_wp2_with fail
        refine (HLC.out _ hrd).mono ?_
        rintro e w2 ⟨v, rfl, hov, hb2⟩
        obtain ⟨av, cv, rfl, hrv⟩ := row_rd hov
        have hxr2 := hxr.below hb2
        have HB2 := Lib.hid hb2
        clear hov hb2 hrd hxr
        cases hd : decide (clsL out = xs) with
        | false =>
          rw [hd, if_neg (by simp)] at hres
          have HNO := Lib.hid (eo_no hres)
          have HEQ2 := HEQ.out av cv w2 hrv hxr2
          rw [hd] at HEQ2
          have HEQ2 := Lib.hid HEQ2
          clear hres hd hrv hxr2
          go_wp2_with fail
          refine HEQ2.out.mono ?_
          rintro e w3 ⟨rfl, d3⟩
          have HD := Lib.hid d3
          clear d3
          go_wp2
          go_ret2
          rw [HNO.out.1, HNO.out.2]
          have hb := (HHO.out.2.trans (HB2.out.mono hbs)).trans ((HD.out.below _).mono (Nat.le_trans hbs HB2.out.size))
          exact ⟨_, rfl, own_mono (row_lit0 _) hb.size, hb.alloc hb.size _⟩
        | true =>
          rw [hd, if_pos rfl] at hres
          have HE := Lib.hid (eo_yes h1 h4 hres)
          have HEQ2 := HEQ.out av cv w2 hrv hxr2
          rw [hd] at HEQ2
          have HEQ2 := Lib.hid HEQ2
          have hol2 := Lib.hid hol
          clear hres hd hrv hxr2 hol
          go_wp2_with fail
          refine HEQ2.out.mono ?_
          rintro e w3 ⟨rfl, d3⟩
          have HD := Lib.hid d3
          clear d3
          go_wp2
          go_ret2
          rw [HE.out.1, HE.out.2]
          have hb := (HHO.out.2.trans (HB2.out.mono hbs)).trans ((HD.out.below _).mono (Nat.le_trans hbs HB2.out.size))
          have ho3 := (((OwnR.made (xs := out) (by rw [hol2.out]; exact HHO.out.1)).below HB2.out (Nat.le_refl _)).dn HD.out).row
          exact ⟨_, rfl, ho3, hb⟩

theorem specEquOf_any (n : Int) (ao : Option Addr) (ca : Nat) (xs : List Int) (w : World) (hl : xs.length ≤ 1048576) (hx : Rd w ao xs) :
    Calls Tryz.prog 13 #[.int .i64 n, .slice ao xs.length ca] w (Gave w (eoR n xs) (eoB n xs)) := by
  cases hn : inB n 1 4 with
  | false => exact specEquOf_off n _ xs w hn
  | true =>
    obtain ⟨m, rfl, h1, h4⟩ := inB_nat hn
    exact specEquOf_on m h1 h4 ao ca xs w hl hx
end Go.Proofs.YtebkeebgjjmdbaaGreatDoor
