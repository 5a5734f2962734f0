/-
  The model's EquOf.
-/
import Derived.Test.YtfmcmicneaolkaaDoorJW
import Derived.Test.YtfmcmicneaolkaaDoorJK
import Derived.Test.YtfmcmicneaolkaaDoorEF
namespace Go.Proofs.YtfmcmicneaolkaaDoor
open Go.RowKit

theorem sFold_take {n : Nat} {xs : List Int} {k : Nat} {c : Int} (h : xs[k]? = some c) : sFold n (xs.take (k + 1)) = (sFold n (xs.take k)).bind fun st => sStep n st c := by
  rw [List.take_add_one, h]
  exact sFold_snoc n _ c
theorem sFold_stop {n : Nat} {xs : List Int} {k : Nat} {c : Int} {t : Int} {ps : List Int} (h : xs[k]? = some c) (hf : sFold n (xs.take k) = some (t, ps)) (hk : sOk n t c = false) : sRes n xs = none := by
  have h1 : sFold n (xs.take (k + 1)) = none := by
    rw [sFold_take h, hf]
    show sStep n (t, ps) c = none
    unfold sStep
    rw [show (t, ps).1 = t from rfl, hk]
    rfl
  have h2 : sFold n xs = none := by
    have := sFold_app n (xs.take (k + 1)) (xs.drop (k + 1)) h1
    rwa [List.take_append_drop] at this
  unfold sRes
  rw [h2]
theorem own_cls (xs : List Int) : ownL xs = clsL xs := rfl

theorem specEquOf_off (n : Int) (v : Value) (xs : List Int) (w : World) (hn : inB n 1 4 = false) :
    Calls Tryd.prog 4 #[.int .i64 n, v] w (Gave w (eoR n xs) (eoB n xs)) := by
  have H1 := l6In_any n 1 4 w
  rw [hn] at H1
  have HC := Lib.hid H1
  have HE := Lib.hid (eo_off (xs := xs) hn)
  clear H1 hn
  go_enter Tryd.func4, Tryd.ntmps4
  go_wp2_with fail
  refine HC.out.mono ?_
  rintro e w' ⟨rfl, rfl⟩
  go_wp2
  go_ret2
  rw [HE.out.1, HE.out.2]
  exact ⟨_, rfl, row_lit0 _, (Below.refl _ _).alloc (Nat.le_refl _) _⟩

set_option maxRecDepth 20000 in
set_option maxHeartbeats 8000000 in
theorem specEquOf_on (n : Nat) (h1 : 1 ≤ n) (h4 : n ≤ 4) (ao : Option Addr) (ca : Nat) (xs : List Int) (w : World) (hl : xs.length ≤ 1048576) (hx : Rd w ao xs) :
    Calls Tryd.prog 4 #[.int .i64 n, .slice ao xs.length ca] w (Gave w (eoR n xs) (eoB n xs)) := by
  obtain ⟨i0, hi, hz0, hz1, hz2⟩ := info_parts Tryd.info3
  have H1 := l6In_any (n : Int) 1 4 w
  rw [show inB (n : Int) 1 4 = true by unfold inB; exact decide_eq_true ⟨by omega, by omega⟩] at H1
  have HC := Lib.hid H1
  have HT := Lib.hid (fun (x : Int) (wr : World) => l6In_any x 1 (wrap64 (wrap64 (2 ^ n) - 1)) wr)
  clear H1
  go_enter Tryd.func4, Tryd.ntmps4
  go_wp2_with fail
  refine HC.out.mono ?_
  rintro e w' ⟨rfl, rfl⟩
  go_wp2_with (at_make; refine wpList_make_full _ rfl _ _ 22 rfl w.heap.size 3 i0 (.int .i64 0) 1 Tryd.underlying22 hi hz0 hz1 _ _ _ _ n rfl rfl rfl rfl ?c1 ?c2 ?c3 ?_)
  case c1 => rw [hz2]; omega
  case c2 => unfold maxLen; omega
  case c3 => exact Nat.le_refl _
  intro w1 hown hgrow
  have hB : Below w.heap.size w w1 := (Below.refl _ _).grown hgrow (Nat.le_refl _) (by simp)
  rw [toList_madeCells_one] at hown
  have ho1 : w1.ownsRow w.heap.size 3 1 (.slice (some ⟨w.heap.size, 0, none⟩) n n) n ((List.replicate n (0 : Int)).map (Value.int .i64)) := by simpa using hown
  clear hown hgrow
  go_wp2
  go_loopw [7, 8, 9, 10] (fun s i _ _ wr => ∃ (k : Nat) (told : Fin 16) (out : List Int), k ≤ xs.length ∧ i = .int .i64 k ∧ s = .int .i64 (told.val : Int) ∧ out.length = n ∧ sFold n (xs.take k) = some ((told.val : Int), out) ∧ wr.ownsRow w.heap.size 3 1 (.slice (some ⟨w.heap.size, 0, none⟩) n n) n (out.map (Value.int .i64)) ∧ Below w.heap.size w wr)
    (fun _ i _ _ _ => xs.length - (intOf i).toNat)
  case atStart => exact ⟨0, 0, List.replicate n 0, Nat.zero_le _, rfl, rfl, List.length_replicate, rfl, ho1, hB⟩
  case round =>
    clear ho1 hB
    obtain ⟨k, told, out, hk, rfl, rfl, hol, hf, ho, hB⟩ := hrel
    obtain ⟨wo, rfl⟩ : ∃ wo : World, wo = wr := ⟨_, rfl⟩
    by_cases hlt : k < xs.length
    · obtain ⟨b, off, c, hxk, rfl, hbl, hc1⟩ := (hx.below hB).get k hlt
      have hi1 : ((k : Nat) : Int) < (xs.length : Int) := by omega
      have hno := fun h => sFold_stop (n := n) hxk hf h
      have hgo := sFold_take (n := n) hxk
      rw [hf] at hgo
      have hgo : sFold n (xs.take (k + 1)) = sStep n ((told.val : Int), out) c := hgo
      have hok : sOk n (told.val : Int) c = (inB c 1 (wrap64 (wrap64 (2 ^ n) - 1)) && bits .and .i64 c (told.val : Int) == 0) := rfl
      have hstep : sStep n ((told.val : Int), out) c = if sOk n (told.val : Int) c then some (bits .or .i64 (told.val : Int) c, putTo c out n) else none := rfl
      rw [hstep] at hgo
      have hrange := fun h => sOk_range (t := (told.val : Int)) (c := c) h1 h4 h
      have HS := HT.out c
      cases hr : inB c 1 (wrap64 (wrap64 (2 ^ n) - 1)) with
      | false =>
        rw [hr, Bool.false_and] at hok
        rw [hr] at HS
        have HS := Lib.hid HS
        have HNO := Lib.hid (And.intro (eo_no (hno hok)) hB)
        clear hno hok hgo hf ho hB hr hxk hstep hol hrange
        go_wp2_with fail
        refine (HS.out _).mono ?_
        rintro e w' ⟨rfl, rfl⟩
        go_wp2
        go_ret2
        rw [HNO.out.1.1, HNO.out.1.2]
        exact ⟨_, rfl, own_mono (row_lit0 _) HNO.out.2.size, HNO.out.2.alloc HNO.out.2.size _⟩
      | true =>
        rw [hr, Bool.true_and] at hok
        rw [hr] at HS
        have HS := Lib.hid HS
        cases ha : (bits .and .i64 c (told.val : Int) == 0) with
        | false =>
          rw [ha] at hok
          have hne : (bits .and .i64 c (told.val : Int) != 0) = true := by simpa using ha
          have HNO := Lib.hid (And.intro (eo_no (hno hok)) hB)
          clear hno hok hgo hf ho hB hr hxk hstep hol hrange ha
          go_wp2_with fail
          refine (HS.out _).mono ?_
          rintro e w' ⟨rfl, rfl⟩
          go_wp2
          go_ret2
          rw [HNO.out.1.1, HNO.out.1.2]
          exact ⟨_, rfl, own_mono (row_lit0 _) HNO.out.2.size, HNO.out.2.alloc HNO.out.2.size _⟩
        | true =>
          rw [ha] at hok
          have hne : (bits .and .i64 c (told.val : Int) != 0) = false := by simpa using ha
          rw [hok, if_pos rfl] at hgo
          obtain ⟨cn, hcn, rfl⟩ := hrange hok
          have hp := pow16 h4
          obtain ⟨u, hu⟩ := or_16 told ⟨cn, by omega⟩
          have hu : bits .or .i64 (told.val : Int) (cn : Int) = (u.val : Int) := hu
          rw [hu] at hgo
          have HGO := Lib.hid hgo
          have HOL := Lib.hid hol
          clear hno hok hgo hf hr hxk hstep ha hol hrange
          go_wp2_with fail
          refine (HS.out _).mono ?_
          rintro e w' ⟨rfl, rfl⟩
          go_wp2
          go_loopw [10] (fun j wr => ∃ m : Nat, m ≤ n ∧ j = .int .i64 m ∧ wr.ownsRow w.heap.size 3 1 (.slice (some ⟨w.heap.size, 0, none⟩) n n) n ((putTo (cn : Int) out m).map (Value.int .i64)) ∧ Below w.heap.size w wr)
            (fun j _ => n - (intOf j).toNat)
          case atStart => exact ⟨0, Nat.zero_le _, rfl, ho, hB⟩
          case round =>
            clear ho hB hc1 hbl
            obtain ⟨m, hm, rfl, ho, hB⟩ := hrel
            by_cases hlm : m < n
            · have hj := putTo_succ (cn : Int) out m
              have hm1 : ((m : Nat) : Int) < (n : Int) := by omega
              cases hbm : bitB (cn : Int) m with
              | false =>
                rw [hbm, if_neg (by simp)] at hj
                unfold bitB at hbm
                have HJ := Lib.hid hj
                clear hj
                go_wp2
                go_roundw
                case rel => exact ⟨m + 1, by omega, by go_num, by rw [HJ.out]; exact ho, hB⟩
                case measure => simp [intOf]; omega
              | true =>
                rw [hbm, if_pos rfl] at hj
                unfold bitB at hbm
                have HJ := Lib.hid hj
                have hc2 := ho.cellAt m (by omega)
                have hf2 := ho.frozenAt m
                rw [List.getElem?_map, rowAt_get (by rw [putTo_len, HOL.out]; exact hlm)] at hc2
                replace hc2 : wr.cell? ⟨w.heap.size, m, none⟩ = some (.int .i64 (rowAt (putTo (cn : Int) out m) m)) := hc2
                clear hj
                go_wp2
                go_roundw
                case rel =>
                  refine ⟨m + 1, by omega, by go_num, ?_, hB.setCell (Nat.le_refl _) _⟩
                  have h := (ho.stored m (.int .i64 (cn : Int))).1
                  rw [← List.map_set, ← HJ.out] at h
                  exact h
                case measure => simp [intOf]; omega
            · obtain rfl : m = n := by omega
              go_wp2
              go_roundw
              case rel => exact ⟨k + 1, u, _, by omega, by go_num, rfl, by rw [putTo_len]; exact HOL.out, HGO.out, ho, hB⟩
              case measure => simp [intOf]; omega
    · obtain rfl : k = xs.length := by omega
      rw [List.take_length] at hf
      have hres : sRes n xs = if (told.val : Int) == wrap64 (wrap64 (2 ^ n) - 1) && decide (clsL out = xs) then some out else none := by
        unfold sRes
        rw [hf]
        rfl
      cases ht : ((told.val : Int) == wrap64 (wrap64 (2 ^ n) - 1)) with
      | false =>
        have hne : ((told.val : Int) != wrap64 (wrap64 (2 ^ n) - 1)) = true := by simpa using ht
        rw [ht, Bool.false_and, if_neg (by simp)] at hres
        have HNO := Lib.hid (And.intro (eo_no hres) hB)
        clear hres hB ho hf ht hol
        go_wp2
        go_ret2
        rw [HNO.out.1.1, HNO.out.1.2]
        exact ⟨_, rfl, own_mono (row_lit0 _) HNO.out.2.size, HNO.out.2.alloc HNO.out.2.size _⟩
      | true =>
        have hne : ((told.val : Int) != wrap64 (wrap64 (2 ^ n) - 1)) = false := by simpa using ht
        rw [ht, Bool.true_and] at hres
        have HLC := Lib.hid (fun wr h => l4Classes_any (some ⟨w.heap.size, 0, none⟩) n out wr (by rw [hol]; exact h4) h)
        have HEQ := Lib.hid (fun (bo : Option Addr) (cb : Nat) (wr : World) h h' => l2Equal_any bo ao cb ca (clsL out) xs wr (Nat.le_trans (clsTo_le _ _) (by rw [hol]; omega)) hl h h')
        rw [hol] at HLC
        have hrd : Rd wo (some ⟨w.heap.size, 0, none⟩) out := by
          have ho' := ho
          rw [show n = out.length from hol.symm] at ho'
          obtain ⟨a, c, he, hr⟩ := row_rd ho'
          cases he
          exact hr
        have hxr := hx.below hB
        have HHO := Lib.hid (And.intro ho hB)
        have hbs := hB.size
        clear ho hB hf ht hx
        go_wp2_with fail
        refine (HLC.out _ hrd).mono ?_
        rintro e w2 ⟨v, rfl, hov, hb2⟩
        obtain ⟨av, cv, rfl, hrv⟩ := row_rd hov
        have hxr2 := hxr.below hb2
        have HB2 := Lib.hid hb2
        clear hov hb2 hrd hxr
        cases hd : decide (clsL out = xs) with
        | false =>
          rw [hd, if_neg (by simp)] at hres
          have HNO := Lib.hid (eo_no hres)
          have HEQ2 := HEQ.out av cv w2 hrv hxr2
          rw [hd] at HEQ2
          have HEQ2 := Lib.hid HEQ2
          clear hres hd hrv hxr2
          go_wp2_with fail
          refine HEQ2.out.mono ?_
          rintro e w3 ⟨rfl, d3⟩
          have HD := Lib.hid d3
          clear d3
          go_wp2
          go_ret2
          rw [HNO.out.1, HNO.out.2]
          have hb := (HHO.out.2.trans (HB2.out.mono hbs)).trans ((HD.out.below _).mono (Nat.le_trans hbs HB2.out.size))
          exact ⟨_, rfl, own_mono (row_lit0 _) hb.size, hb.alloc hb.size _⟩
        | true =>
          rw [hd, if_pos rfl] at hres
          have HE := Lib.hid (eo_yes h1 h4 hres)
          have HEQ2 := HEQ.out av cv w2 hrv hxr2
          rw [hd] at HEQ2
          have HEQ2 := Lib.hid HEQ2
          have hol2 := Lib.hid hol
          clear hres hd hrv hxr2 hol
          go_wp2_with fail
          refine HEQ2.out.mono ?_
          rintro e w3 ⟨rfl, d3⟩
          have HD := Lib.hid d3
          clear d3
          go_wp2
          go_ret2
          rw [HE.out.1, HE.out.2]
          have hb := (HHO.out.2.trans (HB2.out.mono hbs)).trans ((HD.out.below _).mono (Nat.le_trans hbs HB2.out.size))
          have ho3 := (((OwnR.made (xs := out) (by rw [hol2.out]; exact HHO.out.1)).below HB2.out (Nat.le_refl _)).dn HD.out).row
          exact ⟨_, rfl, ho3, hb⟩

theorem specEquOf_any (n : Int) (ao : Option Addr) (ca : Nat) (xs : List Int) (w : World) (hl : xs.length ≤ 1048576) (hx : Rd w ao xs) :
    Calls Tryd.prog 4 #[.int .i64 n, .slice ao xs.length ca] w (Gave w (eoR n xs) (eoB n xs)) := by
  cases hn : inB n 1 4 with
  | false => exact specEquOf_off n _ xs w hn
  | true =>
    obtain ⟨m, rfl, h1, h4⟩ := inB_nat hn
    exact specEquOf_on m h1 h4 ao ca xs w hl hx
end Go.Proofs.YtfmcmicneaolkaaDoor
