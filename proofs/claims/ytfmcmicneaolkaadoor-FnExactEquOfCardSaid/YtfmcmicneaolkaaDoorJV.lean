/-
  The program's linkedByPartition.
-/
import Derived.Test.YtfmcmicneaolkaaDoorJT
import Derived.Test.YtfmcmicneaolkaaDoorJC
import Derived.StillTailTactics
namespace Go.Proofs.YtfmcmicneaolkaaDoor
open Go.RowKit

theorem onePoint_4 (w : World) : Calls Tryd.prog 31 #[.int .i64 4] w fun e w' => e = .returned (.int .i64 (pt 4)) ∧ w = w' := by
  go_enter Tryd.func31, Tryd.ntmps31
  go_wp2
  go_ret
  exact ⟨rfl, rfl⟩
theorem has_4 (s : Int) (j : Nat) (h : j ≤ 4) (w : World) : Calls Tryd.prog 21 #[.int .i64 s, .int .i64 j] w fun e w' => e = .returned (.bool (hasB s j)) ∧ w = w' := by
  rcases Nat.lt_or_ge j 4 with h | h
  · exact has_any s j h w
  · obtain rfl : j = 4 := by omega
    go_enter Tryd.func21, Tryd.ntmps21
    go_wp2_with fail
    refine (onePoint_4 _).mono ?_
    rintro e w' ⟨rfl, rfl⟩
    go_wp2
    go_ret
    exact ⟨rfl, rfl⟩
theorem has_ltn : ∀ n : Fin 5, ∀ c : Fin 16, c.val < 2 ^ n.val → ∀ t : Fin 16, hasB (c.val : Int) (lo (t.val : Int)) = true → lo (t.val : Int) < n.val := by decide +kernel
theorem lo_le : ∀ t : Fin 16, lo (t.val : Int) ≤ 4 := by decide +kernel
theorem iFold_take {n : Nat} {xs : List Int} {k : Nat} {c : Int} (h : xs[k]? = some c) : iFold n (xs.take (k + 1)) = (iFold n (xs.take k)).bind fun st => iStep n st c := by
  rw [List.take_add_one, h]
  exact iFold_snoc n _ c
theorem iFold_stop {n : Nat} {xs : List Int} {k : Nat} {c : Int} {t : Int} {ps : List Nat} (h : xs[k]? = some c) (hf : iFold n (xs.take k) = some (t, ps)) (hk : iOk n t c = false) : iRes n xs = none := by
  have h1 : iFold n (xs.take (k + 1)) = none := by
    rw [iFold_take h, hf]
    show iStep n (t, ps) c = none
    unfold iStep
    rw [show (t, ps).1 = t from rfl, hk]
    rfl
  have h2 : iFold n xs = none := by
    have := iFold_app n (xs.take (k + 1)) (xs.drop (k + 1)) h1
    rwa [List.take_append_drop] at this
  unfold iRes
  rw [h2]

/-- what comes of a list of sets -/
def Parted (w : World) (n : Nat) (xs : List Int) (e : Ending) (w' : World) : Prop :=
  Below w.heap.size w w' ∧ ((∃ (ps : List Nat), iFold n xs = some (((2 ^ n - 1 : Nat) : Int), ps) ∧ Fo ps ∧ e = .returned (.tuple #[.slice (some ⟨w.heap.size, 0, none⟩) n n, .nilIface]) ∧ LinkW w' w.heap.size n ps ∧ w.heap.size + 1 + n ≤ w'.heap.size) ∨
    (iRes n xs = none ∧ ∃ a : Nat, e = .returned (.tuple #[.slice none 0 0, .iface 37 (.pointer (some ⟨a, 0, none⟩))])))

set_option maxRecDepth 20000 in
set_option maxHeartbeats 8000000 in
theorem linkedByPartition_any (n : Nat) (h1 : 1 ≤ n) (h4 : n ≤ 4) (ao : Option Addr) (ca : Nat) (xs : List Int) (w : World) (hl : xs.length ≤ 1048576) (hx : Rd w ao xs) (T : TabW w) (hT : 2 < w.heap.size) :
    Calls Tryd.prog 14 #[.int .i64 n, .slice ao xs.length ca] w (Parted w n xs) := by
  have HTab := Lib.hid (fun (wr : World) (hb : Below w.heap.size w wr) => T.keep (hb.block _ hT))
  clear T
  go_enter Tryd.func14, Tryd.ntmps14
  go_wp2_with fail
  refine (unlinked_any n h4 _).mono ?_
  rintro e w1 ⟨rfl, hL, hs, hB⟩
  have hsz : w.heap.size + 1 + n ≤ w1.heap.size := by omega
  clear hs
  go_wp2
  go_loopw [17, 7, 8, 9, 10, 11, 12] (fun i t _ _ _ _ _ wr => ∃ (k : Nat) (told : Fin 16) (ps : List Nat), k ≤ xs.length ∧ i = .int .i64 k ∧ t = .int .i64 (told.val : Int) ∧ iFold n (xs.take k) = some ((told.val : Int), ps) ∧ Fo ps ∧ LinkW wr w.heap.size n ps ∧ w.heap.size + 1 + n ≤ wr.heap.size ∧ Below w.heap.size w wr)
    (fun i _ _ _ _ _ _ _ => xs.length - (intOf i).toNat)
  case atStart => exact ⟨0, 0, fo0, Nat.zero_le _, rfl, rfl, rfl, Fo.zero, hL, hsz, hB⟩
  case round =>
    clear hL hsz hB
    obtain ⟨k, told, ps, hk, rfl, rfl, hf, hF, hL, hsz, hB⟩ := hrel
    obtain ⟨wo, rfl⟩ : ∃ wo : World, wo = wr := ⟨_, rfl⟩
    by_cases hlt : k < xs.length
    · obtain ⟨b, off, c, hxk, rfl, hbl, hc1⟩ := (hx.below hB).get k hlt
      have hi1 : ((k : Nat) : Int) < (xs.length : Int) := by omega
      have HLO := Lib.hid (leastOutside_any told wo (HTab.out wo hB))
      have hle := lo_le told
      have hno := fun h => iFold_stop (n := n) hxk hf h
      have hgo := iFold_take (n := n) hxk
      rw [hf] at hgo
      have hgo : iFold n (xs.take (k + 1)) = iStep n ((told.val : Int), ps) c := hgo
      have hok : iOk n (told.val : Int) c = (rowIn n c && (hasB c (lo (told.val : Int)) && bits .and .i64 c (told.val : Int) == 0)) := rfl
      have hln := fun (cf : Fin 16) (h : cf.val < 2 ^ n) => has_ltn ⟨n, by omega⟩ cf h told
      obtain ⟨l, hlo⟩ : ∃ l, lo (told.val : Int) = l := ⟨_, rfl⟩
      have hstep : iStep n ((told.val : Int), ps) c = if iOk n (told.val : Int) c then some (bits .or .i64 (told.val : Int) c, joinTo c (lo (told.val : Int)) ps n) else none := rfl
      rw [hstep] at hgo
      rw [hlo] at HLO hle hok hln hgo
      cases hr : rowIn n c with
      | false =>
        rw [hr, Bool.false_and] at hok
        have HNO := Lib.hid (And.intro (hno hok) hB)
        have HS := Lib.hid (fun w => isSet_any c n h1 h4 w)
        rw [hr] at HS
        clear hno hok hgo hln hf hF hL hB hr hxk hlo hstep
        go_wp2_with fail
        refine HLO.out.mono ?_
        rintro e w' ⟨rfl, rfl⟩
        go_wp2_with fail
        refine (HS.out _).mono ?_
        rintro e w' ⟨rfl, rfl⟩
        go_wp2
        go_ret2
        exact ⟨HNO.out.2.alloc HNO.out.2.size _, .inr ⟨HNO.out.1, _, rfl⟩⟩
      | true =>
        rw [hr, Bool.true_and] at hok
        have HS := Lib.hid (fun w => isSet_any c n h1 h4 w)
        rw [hr] at HS
        obtain ⟨cn, hcn, rfl⟩ : ∃ m, m < 2 ^ n ∧ c = ((m : Nat) : Int) := by
          unfold rowIn at hr
          rw [Bool.and_eq_true] at hr
          have a := of_decide_eq_true hr.1
          have b := of_decide_eq_true hr.2
          have h2 : ((2 ^ n : Nat) : Int) = (2 : Int) ^ n := by simp
          exact ⟨c.toNat, by omega, by omega⟩
        have hp := pow16 h4
        have HH := Lib.hid (fun w => has_4 (cn : Int) l hle w)
        cases hh : hasB (cn : Int) l with
        | false =>
          rw [hh, Bool.false_and] at hok
          rw [hh] at HH
          have HNO := Lib.hid (And.intro (hno hok) hB)
          clear hno hok hgo hln hf hF hL hB hr hxk hlo hstep hh
          go_wp2_with fail
          refine HLO.out.mono ?_
          rintro e w' ⟨rfl, rfl⟩
          go_wp2_with fail
          refine (HS.out _).mono ?_
          rintro e w' ⟨rfl, rfl⟩
          go_wp2_with fail
          refine (HH.out _).mono ?_
          rintro e w' ⟨rfl, rfl⟩
          go_wp2
          go_ret2
          exact ⟨HNO.out.2.alloc HNO.out.2.size _, .inr ⟨HNO.out.1, _, rfl⟩⟩
        | true =>
          rw [hh, Bool.true_and] at hok
          rw [hh] at HH
          have hlt4 : l < n := hln ⟨cn, by omega⟩ hcn hh
          cases ha : (bits .and .i64 (cn : Int) (told.val : Int) == 0) with
          | false =>
            rw [ha] at hok
            have hne : (bits .and .i64 (cn : Int) (told.val : Int) != 0) = true := by simpa using ha
            have HNO := Lib.hid (And.intro (hno hok) hB)
            clear hno hok hgo hln hf hF hL hB hr hxk hlo hstep hh ha
            go_wp2_with fail
            refine HLO.out.mono ?_
            rintro e w' ⟨rfl, rfl⟩
            go_wp2_with fail
            refine (HS.out _).mono ?_
            rintro e w' ⟨rfl, rfl⟩
            go_wp2_with fail
            refine (HH.out _).mono ?_
            rintro e w' ⟨rfl, rfl⟩
            go_wp2
            go_ret2
            exact ⟨HNO.out.2.alloc HNO.out.2.size _, .inr ⟨HNO.out.1, _, rfl⟩⟩
          | true =>
            rw [ha] at hok
            have hne : (bits .and .i64 (cn : Int) (told.val : Int) != 0) = false := by simpa using ha
            rw [hok, if_pos rfl] at hgo
            obtain ⟨u, hu⟩ := or_16 told ⟨cn, by omega⟩
            have hu : bits .or .i64 (told.val : Int) (cn : Int) = (u.val : Int) := hu
            rw [hu] at hgo
            have HGO := Lib.hid hgo
            have HU := Lib.hid hu
            clear hno hok hgo hln hf hr hxk hlo hstep hh ha hu
            go_wp2_with fail
            refine HLO.out.mono ?_
            rintro e w' ⟨rfl, rfl⟩
            go_wp2_with fail
            refine (HS.out _).mono ?_
            rintro e w' ⟨rfl, rfl⟩
            go_wp2_with fail
            refine (HH.out _).mono ?_
            rintro e w' ⟨rfl, rfl⟩
            go_wp2
            go_loopw [46, 12] (fun j _ wr => ∃ m : Nat, m ≤ n ∧ j = .int .i64 m ∧ LinkW wr w.heap.size n (joinTo (cn : Int) l ps m) ∧ w.heap.size + 1 + n ≤ wr.heap.size ∧ Below w.heap.size w wr)
              (fun j _ _ => n - (intOf j).toNat)
            case atStart => exact ⟨0, Nat.zero_le _, rfl, hL, hsz, hB⟩
            case round =>
              clear hL hsz hB hc1 hbl
              obtain ⟨m, hm, rfl, hL, hsz, hB⟩ := hrel
              by_cases hlm : m < n
              · have hj := joinTo_succ (cn : Int) l ps m
                have HM := Lib.hid (fun w => has_any (cn : Int) m (by omega) w)
                cases hbm : hasB (cn : Int) m with
                | false =>
                  rw [hbm, if_neg (by simp)] at hj
                  rw [hbm] at HM
                  have HJ := Lib.hid hj
                  clear hj hbm
                  go_wp2_with fail
                  refine (HM.out _).mono ?_
                  rintro e w' ⟨rfl, rfl⟩
                  go_wp2
                  go_roundw
                  case rel => exact ⟨m + 1, by omega, by go_num, by rw [HJ.out]; exact hL, hsz, hB⟩
                  case measure => simp [intOf]; omega
                | true =>
                  rw [hbm, if_pos rfl] at hj
                  rw [hbm] at HM
                  have hFm := hF.joinTo (cn : Int) l (by omega) m (by omega)
                  have c1 := hL.row l hlt4
                  have c2 := hL.row m hlm
                  have HJ := Lib.hid hj
                  have HC := Lib.hid (fun (wz : World) (h : LinkW wz w.heap.size n (joinTo (cn : Int) l ps m)) => join_any hFm h4 l m hlt4 hlm wz h)
                  have HL := Lib.hid (And.intro hL (And.intro hsz (And.intro hB hFm)))
                  have hl1 : ((l : Nat) : Int) < (n : Int) := by omega
                  have hm1 : ((m : Nat) : Int) < (n : Int) := by omega
                  have hmo : Tryd.prog.follows .mixedOrders = true := by kernel_rfl
                  clear hj hbm hL hsz hB hFm
                  go_wp2_with fail
                  refine (HM.out _).mono ?_
                  rintro e w' ⟨rfl, rfl⟩
                  go_wp2
                  refine wp_region_still_tail 8 hmo (by kernel_rfl) ?_
                  simp only [List.take_succ_cons, List.take_zero, List.drop_succ_cons, List.drop_zero]
                  repeat still_step
                  refine wpStill_nil ?_
                  go_wp2_with fail
                  refine (HC.out wr.drew ⟨HL.out.1.row, HL.out.1.node⟩).mono ?_
                  rintro e w' ⟨rfl, q, rfl⟩
                  clear c1 c2
                  go_wp2
                  go_roundw
                  case rel =>
                    obtain ⟨hL, hsz, hB, hFm⟩ := HL.out
                    refine ⟨m + 1, by omega, by go_num, ?_, ?_, ?_⟩
                    · rw [HJ.out]
                      exact (hL.drewN _).join hFm h4 l m hlt4 hlm
                    · rw [joinW_size]
                      exact hsz
                    · exact joinW_below _ _ _ _ _ _ _ (by omega) (below_drewN hB _)
                  case measure => simp [intOf]; omega
              · obtain rfl : m = n := by omega
                have hFn := hF.joinTo (cn : Int) l (by omega) m (by omega)
                have HL := Lib.hid (And.intro hL (And.intro hsz (And.intro hB hFn)))
                clear hL hsz hB hFn
                go_wp2
                go_roundw
                case rel => exact ⟨k + 1, u, _, by omega, by go_num, rfl, HGO.out, HL.out.2.2.2, HL.out.1, HL.out.2.1, HL.out.2.2.1⟩
                case measure => simp [intOf]; omega
    · obtain rfl : k = xs.length := by omega
      rw [List.take_length] at hf
      have HA := Lib.hid (fun w => allPoints_any n h1 h4 w)
      by_cases ht : (told.val : Int) = ((2 ^ n - 1 : Nat) : Int)
      · have he : ((told.val : Int) != ((2 ^ n - 1 : Nat) : Int)) = false := by simp [ht]
        obtain ⟨z, hz⟩ : ∃ z : Int, ((2 ^ n - 1 : Nat) : Int) = z := ⟨_, rfl⟩
        rw [ht] at hf
        have HL := Lib.hid (And.intro hf (And.intro hF (And.intro hL (And.intro hsz hB))))
        rw [hz] at he HA
        clear hf hF hL hsz hB hz ht
        go_wp2_with fail
        refine (HA.out _).mono ?_
        rintro e w' ⟨rfl, rfl⟩
        go_wp2
        go_ret2
        exact ⟨HL.out.2.2.2.2, .inl ⟨ps, HL.out.1, HL.out.2.1, rfl, HL.out.2.2.1, HL.out.2.2.2.1⟩⟩
      · have he : ((told.val : Int) != ((2 ^ n - 1 : Nat) : Int)) = true := by simpa using ht
        have hres : iRes n xs = none := by
          unfold iRes
          rw [hf]
          show (if (told.val : Int) == ((2 ^ n - 1 : Nat) : Int) then _ else _) = none
          rw [if_neg (by simpa using ht)]
        obtain ⟨z, hz⟩ : ∃ z : Int, ((2 ^ n - 1 : Nat) : Int) = z := ⟨_, rfl⟩
        have HL := Lib.hid (And.intro hres hB)
        rw [hz] at he HA
        clear hf hF hL hsz hB hz ht hres
        go_wp2_with fail
        refine (HA.out _).mono ?_
        rintro e w' ⟨rfl, rfl⟩
        go_wp2
        go_ret2
        exact ⟨HL.out.2.alloc HL.out.2.size _, .inr ⟨HL.out.1, _, rfl⟩⟩
end Go.Proofs.YtfmcmicneaolkaaDoor
