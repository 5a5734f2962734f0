/-
  The draw of two relations: l91Two, DrawCompOf.
-/
import Derived.Test.YthdnpcpimggjnaaGreatDoorDE
namespace Go.Proofs.YthdnpcpimggjnaaGreatDoor
open Go.RowKit

set_option maxHeartbeats 2000000 in
theorem l1Image32_any (ao : Option Addr) (ca : Nat) (xs : List Int) (set : Nat) (w : World) (_hs : set < 32) (h4 : xs.length ≤ 5) (hx : Rd w ao xs) :
    Calls Tryz.prog 116 #[.slice ao xs.length ca, .int .i64 set] w fun e w' => e = .returned (.int .i64 (imgTo xs set xs.length)) ∧ Dn w w' := by
  go_enter Tryz.func116, Tryz.ntmps116
  go_wp2
  go_loopw [5, 6] (fun o i wr => ∃ k : Nat, k ≤ xs.length ∧ i = .int .i64 k ∧ o = .int .i64 (imgTo xs set k) ∧ Dn w wr)
    (fun _ i _ => xs.length - (intOf i).toNat)
  case atStart => exact ⟨0, Nat.zero_le _, rfl, rfl, Dn.refl _⟩
  case round =>
    obtain ⟨k, hk, rfl, rfl, hd⟩ := hrel
    by_cases hlt : k < xs.length
    · obtain ⟨b, off, x, hxk, rfl, hbl, hc1⟩ := (hd.rd hx).get k hlt
      have hxy : x = rowAt xs k := by
        have := rowAt_get hlt
        rw [hxk] at this
        simpa using this
      rw [hxy] at hc1
      have hi1 : ((k : Nat) : Int) < (xs.length : Int) := by omega
      have hsn := imgTo_succ xs set k
      have HS := Lib.hid hsn
      clear hx hxk hxy hsn
      cases hb : bitB set k with
      | true =>
        have hb2 : (bits .and .i64 ((set : Int) / 2 ^ k) 1 == 1) = true := hb
        have HB := Lib.hid hb
        clear hb
        go_wp2
        go_roundw
        case rel => exact ⟨k + 1, by omega, by go_num, by rw [HS.out, HB.out]; rfl, hd⟩
        case measure => simp [intOf]; omega
      | false =>
        have hb2 : (bits .and .i64 ((set : Int) / 2 ^ k) 1 == 1) = false := hb
        have HB := Lib.hid hb
        clear hb
        go_wp2
        go_roundw
        case rel => exact ⟨k + 1, by omega, by go_num, by rw [HS.out, HB.out]; rfl, hd⟩
        case measure => simp [intOf]; omega
    · go_wp2
      go_ret
      obtain rfl : k = xs.length := by omega
      exact ⟨rfl, hd⟩

/-- all numbers are sets of at most four points -/
def In32 (xs : List Int) : Prop := ∀ k, ∃ z : Fin 32, rowAt xs k = (z.val : Int)

theorem or3232 : ∀ z y : Fin 32, ∃ u : Fin 32, bits .or .i64 (z.val : Int) (y.val : Int) = (u.val : Int) := by decide +kernel

theorem imgTo32 {ys : List Int} (h : In32 ys) (set : Int) : ∀ k, ∃ z : Fin 32, imgTo ys set k = (z.val : Int)
  | 0 => ⟨0, rfl⟩
  | k + 1 => by
    rw [imgTo_succ]
    obtain ⟨z, hz⟩ := imgTo32 h set k
    split
    · obtain ⟨y, hy⟩ := h k
      rw [hz, hy]
      exact or3232 z y
    · exact ⟨z, hz⟩

theorem compL32 {xs ys : List Int} (h : In32 ys) : In32 (compL xs ys) := by
  intro k
  by_cases hk : k < xs.length
  · unfold compL; rw [rowAt_map _ _ _ hk]; exact imgTo32 h _ _
  · exact ⟨0, rowAt_out _ _ (by rw [compL_len]; exact hk)⟩

set_option maxHeartbeats 1000000 in
theorem l2Comp32_any (ao bo : Option Addr) (ca cb : Nat) (xs ys : List Int) (w : World) (h4 : xs.length ≤ 5) (h5 : ys.length ≤ 5) (hs : In32 xs) (hx : Rd w ao xs) (hy : Rd w bo ys) :
    Calls Tryz.prog 54 #[.slice ao xs.length ca, .slice bo ys.length cb] w fun e w' => ∃ v, e = .returned v ∧
      w'.ownsRow w.heap.size 3 1 v xs.length ((compL xs ys).map (Value.int .i64)) ∧ Below w.heap.size w w' := by
  obtain ⟨i0, hi, hz0, hz1, hz2⟩ := info_parts Tryz.info3
  go_enter Tryz.func54, Tryz.ntmps54
  go_wp2
  go_loopw [5, 6] (fun v i wr => ∃ k : Nat, k ≤ xs.length ∧ i = .int .i64 k ∧ wr.ownsRow w.heap.size 3 1 v k (((compL xs ys).take k).map (Value.int .i64)) ∧ Below w.heap.size w wr)
    (fun _ i _ => xs.length - (intOf i).toNat)
  case atStart => exact ⟨0, Nat.zero_le _, rfl, row_lit0 w, below_one _ _⟩
  case round =>
    obtain ⟨k, hk, rfl, ho, hb⟩ := hrel
    by_cases hlt : k < xs.length
    · obtain ⟨b, off, x, hxk, rfl, hbl, hc1⟩ := (hx.below hb).get k hlt
      have hyb := hy.below hb
      obtain ⟨z, hz⟩ := hs k
      have hxy : x = (z.val : Int) := by
        have := rowAt_get hlt
        rw [hxk, hz] at this
        simpa using this
      rw [hxy] at hc1
      have hi1 : ((k : Nat) : Int) < (xs.length : Int) := by omega
      have ht := compL_take (xs := xs) (ys := ys) k hlt
      rw [hz] at ht
      have HT := Lib.hid ht
      clear hx hy hxk hxy hz ht
      go_wp2_with fail
      refine (l1Image32_any bo cb ys z.val _ z.isLt h5 hyb).mono ?_
      rintro e w1 ⟨rfl, hd⟩
      clear hc1 hyb
      have ho1 := hd.row ho
      have hb1 := hb.trans (hd.below _)
      have hs1 := hb1.size
      go_wp2_with (at_builtin; refine wpList_append_own _ rfl (.tmp 14) (.tmp 21) 23 rfl w.heap.size 3 i0 (.int .i64 0) 1 8 Tryz.underlying23 hi hz0 hz1 hz2 rfl (by decide) _ _ _ rfl (ho1.alloc _) ⟨w1.heap.size, 0, none⟩ 1 1 [_] rfl rfl (cell_one_new _ _ _) (by simp [Value.oneCell']) (by unfold maxLen; omega) (by omega) (by simp; omega) ?_)
      intro v' w2 hown' hgrow _
      have hb' := own_step' ho1 hb1 hs1 _ hgrow
      rw [← List.map_take, ← List.map_singleton (f := Value.int .i64), ← List.map_append, ← HT.out] at hown'
      clear ho hb ho1 hb1 hgrow
      go_wp2
      go_roundw
      case rel => exact ⟨k + 1, by omega, by go_num, hown', hb'⟩
      case measure => simp [intOf]; omega
    · go_wp2
      go_ret
      obtain rfl : k = xs.length := by omega
      rw [List.take_of_length_le (by rw [compL_len]; omega)] at ho
      exact ⟨_, rfl, ho, hb⟩

theorem reachTo32 {xs : List Int} (h : In32 xs) : ∀ k, In32 (reachTo xs k)
  | 0 => h
  | k + 1 => fun i => by
    by_cases hi : i < xs.length
    · have e : rowAt (reachTo xs (k + 1)) i = bits .or .i64 (rowAt (reachTo xs k) i) (rowAt (compL (reachTo xs k) xs) i) := zipAt _ _ _ _ (by rw [reachTo_len]; exact hi) (by rw [compL_len, reachTo_len]; exact hi)
      obtain ⟨z, hz⟩ := reachTo32 h k i
      obtain ⟨y, hy⟩ := compL32 (xs := reachTo xs k) h i
      rw [e, hz, hy]
      exact or3232 z y
    · exact ⟨0, rowAt_out _ _ (by rw [reachTo_len]; exact hi)⟩

set_option maxHeartbeats 4000000 in
theorem l2Reach32_any (ao : Option Addr) (ca : Nat) (xs : List Int) (w : World) (h1 : 1 ≤ xs.length) (h4 : xs.length ≤ 5) (hs : In32 xs) (hx : Rd w ao xs) :
    Calls Tryz.prog 105 #[.slice ao xs.length ca] w fun e w' => ∃ v, e = .returned v ∧
      w'.ownsRow w.heap.size 3 1 v xs.length ((reachL xs).map (Value.int .i64)) ∧ Below w.heap.size w w' := by
  obtain ⟨i0, hi, hz0, hz1, hz2⟩ := info_parts Tryz.info3
  obtain ⟨b0, off0, _, _, rfl, hbl0, _⟩ := hx.get 0 (by omega)
  have hnews : ∀ (j : Nat) (u : Value), (xs.map (Value.int .i64))[j]? = some u → (w.alloc (.cells #[] 3)).cell? ((⟨b0, off0, none⟩ : Addr).add j) = some u := by
    intro j u hu
    rw [List.getElem?_map] at hu
    cases hxj : xs[j]? with
    | none => rw [hxj] at hu; cases hu
    | some y =>
      rw [hxj] at hu
      cases hu
      obtain ⟨b, off, he, _, hc⟩ := (hx.below (below_one w (.cells #[] 3))) j y hxj
      cases he
      simp only [Addr.add]
      split
      · rename_i h0
        subst h0
        exact hc
      · exact hc
  have HNEWS := Lib.hid hnews
  have HS := Lib.hid hs
  clear hnews hs
  go_enter Tryz.func105, Tryz.ntmps105
  go_wp2_with (at_builtin; refine wpList_append_own _ rfl (.tmp 7) (.tmp 8) 23 rfl w.heap.size 3 i0 (.int .i64 0) 1 8 Tryz.underlying23 hi hz0 hz1 hz2 rfl (by decide) _ _ _ rfl (row_lit0 w) ⟨b0, off0, none⟩ xs.length ca (xs.map (Value.int .i64)) rfl (by simp) HNEWS.out (by simp [Value.oneCell']) (by unfold maxLen; omega) (by omega) (by simp) ?_)
  intro v0 w1 hown hgrow _
  have hB1 : Below w.heap.size w w1 := (below_one w (.cells #[] 3)).grown hgrow (by simp) (fun k hk => ((row_lit0 w).lt k hk).1)
  obtain ⟨g, cap, rfl, hg1, hg2⟩ := own_form hown h1
  clear hgrow HNEWS hbl0
  go_wp2
  go_loopw [4, 5, 6] (fun i _ _ wr => ∃ k : Nat, k ≤ xs.length ∧ i = .int .i64 k ∧ wr.ownsRow w.heap.size 3 1 (.slice (some ⟨g, 0, none⟩) xs.length cap) xs.length ((reachTo xs k).map (Value.int .i64)) ∧ Below w.heap.size w wr)
    (fun i _ _ _ => xs.length - (intOf i).toNat)
  case atStart => exact ⟨0, Nat.zero_le _, rfl, hown, hB1⟩
  case round =>
    clear hown hB1
    obtain ⟨k, hk, rfl, ho, hB⟩ := hrel
    obtain ⟨wo, rfl⟩ : ∃ wo : World, wo = wr := ⟨_, rfl⟩
    have hgo := (ho.lt g rfl).2
    by_cases hlt : k < xs.length
    · have hc := l2Comp32_any (some ⟨g, 0, none⟩) (some ⟨b0, off0, none⟩) cap ca (reachTo xs k) xs wo (by rw [reachTo_len]; exact h4) h4 (reachTo32 HS.out k) (rd_own ho (reachTo_len _ _)) (hx.below hB)
      rw [reachTo_len] at hc
      have hi1 : ((k : Nat) : Int) < (xs.length : Int) := by omega
      go_wp2_with fail
      refine hc.mono ?_
      rintro e w2 ⟨vm, rfl, hm, hb2⟩
      obtain ⟨g2, cap2, rfl, hg3, hg4⟩ := own_form hm h1
      have ho2 := own_keep ho hb2 (fun q hq => by cases hq; exact hgo)
      have hB2 := hB.trans (hb2.mono hB.size)
      clear ho hc
      go_wp2
      go_loopw [6] (fun j wr => ∃ (k2 : Nat) (zs : List Int), k2 ≤ xs.length ∧ j = .int .i64 k2 ∧ Mix (reachTo xs k) (reachTo xs (k + 1)) k2 zs ∧ wr.ownsRow w.heap.size 3 1 (.slice (some ⟨g, 0, none⟩) xs.length cap) xs.length (zs.map (Value.int .i64)) ∧ wr.ownsRow wo.heap.size 3 1 (.slice (some ⟨g2, 0, none⟩) xs.length cap2) xs.length ((compL (reachTo xs k) xs).map (Value.int .i64)) ∧ Below w.heap.size w wr)
        (fun j _ => xs.length - (intOf j).toNat)
      case atStart => exact ⟨0, _, Nat.zero_le _, rfl, Mix.zero _ _, ho2, hm, hB2⟩
      case round =>
        clear ho2 hm hB2
        obtain ⟨j, zs, hj, rfl, hmix, ho, hm, hB2⟩ := hrel
        by_cases hlj : j < xs.length
        · have hzl : zs.length = xs.length := hmix.1.trans (reachTo_len _ _)
          have hc1 := ho.cellAt j (by omega)
          have hf1 := ho.frozenAt j
          have hc2 := hm.cellAt j (by omega)
          have hz1' : (zs.map (Value.int .i64))[j]? = some (.int .i64 (rowAt zs j)) := by rw [List.getElem?_map, rowAt_get (by omega)]; rfl
          have hz2' : ((compL (reachTo xs k) xs).map (Value.int .i64))[j]? = some (.int .i64 (rowAt (compL (reachTo xs k) xs) j)) := by rw [List.getElem?_map, rowAt_get (by rw [compL_len, reachTo_len]; exact hlj)]; rfl
          rw [hz1', hmix.at] at hc1
          rw [hz2'] at hc2
          have hstep := hmix.step (v := bits .or .i64 (rowAt (reachTo xs k) j) (rowAt (compL (reachTo xs k) xs) j)) (by rw [reachTo_len]; exact hlj) (l2Reach_at xs k j hlj)
          obtain ⟨u, hu⟩ : ∃ u, rowAt (reachTo xs k) j = u := ⟨_, rfl⟩
          obtain ⟨y, hy⟩ : ∃ y, rowAt (compL (reachTo xs k) xs) j = y := ⟨_, rfl⟩
          rw [hu] at hc1 hstep
          rw [hy] at hc2 hstep
          have hj1 : ((j : Nat) : Int) < (xs.length : Int) := by omega
          have HSTEP := Lib.hid hstep
          clear hmix hx hz1' hz2' hstep hu hy
          go_wp2
          go_region
          all_goals
            go_wp2
            go_roundw
            case rel =>
              refine ⟨j + 1, _, by omega, by go_num, HSTEP.out, ?_, (ownsRow_setCell_below hm.drew (by simp; omega) _), hB2.drew.setCell (by simp; omega) _⟩
              have h := (ho.stored j (.int .i64 (bits .or .i64 u y))).1
              rw [← List.map_set] at h
              exact h.drew
            case measure => simp [intOf]; omega
        · obtain rfl : j = xs.length := by omega
          have hfull : zs = reachTo xs (k + 1) := Mix.full (xs := reachTo xs k) (by rw [reachTo_len xs k]; exact hmix) (by rw [reachTo_len xs (k + 1), reachTo_len xs k])
          rw [hfull] at ho
          go_wp2
          go_roundw
          case rel => exact ⟨k + 1, by omega, by go_num, ho, hB2⟩
          case measure => simp [intOf]; omega
    · obtain rfl : k = xs.length := by omega
      go_wp2
      go_ret
      exact ⟨_, rfl, ho, hB⟩

end Go.Proofs.YthdnpcpimggjnaaGreatDoor

namespace Go.Proofs.YthdnpcpimggjnaaGreatDoor
open Go.RowKit

theorem pt_wrap32 (k : Nat) (h : k < 5) : wrap64 (2 ^ k) = pt k := by
  rcases (by omega : k = 0 ∨ k = 1 ∨ k = 2 ∨ k = 3 ∨ k = 4) with rfl | rfl | rfl | rfl | rfl <;> decide +kernel

theorem and3232 : ∀ z y : Fin 32, ∃ u : Fin 32, bits .and .i64 (z.val : Int) (y.val : Int) = (u.val : Int) := by decide +kernel

theorem pt32 (k : Nat) (h : k < 5) : ∃ u : Fin 32, pt k = (u.val : Int) := by
  rcases (by omega : k = 0 ∨ k = 1 ∨ k = 2 ∨ k = 3 ∨ k = 4) with rfl | rfl | rfl | rfl | rfl
  · exact ⟨1, rfl⟩
  · exact ⟨2, rfl⟩
  · exact ⟨4, rfl⟩
  · exact ⟨8, rfl⟩
  · exact ⟨16, rfl⟩

theorem In32.snoc {xs : List Int} (h : In32 xs) (z : Fin 32) : In32 (xs ++ [(z.val : Int)]) := by
  intro k
  unfold rowAt
  rw [List.getD_eq_getElem?_getD, List.getElem?_append]
  split
  · have := h k
    unfold rowAt at this
    rwa [List.getD_eq_getElem?_getD] at this
  · rcases Nat.eq_or_lt_of_le (Nat.zero_le (k - xs.length)) with e | e
    · rw [← e]; exact ⟨z, rfl⟩
    · rw [List.getElem?_eq_none (by simp; omega)]; exact ⟨0, rfl⟩

/-- what stands ahead of a round of the draw's first loop -/
def DrI32 (w wr : World) (R : Nat) (ao : Option Addr) (bs : List Nat) (c p k : Nat) (v : Value) : Prop :=
  ∃ (q : Nat) (rs : List Int), rs.length = k ∧ In32 rs ∧ q ≤ p + 1 + 2 * k ∧ wr.ownsRow w.heap.size 3 1 v k (rs.map (Value.int .i64)) ∧ DrS w wr R ao bs c q




theorem shr32 : ∀ x : Fin 32, ∀ j : Fin 5, ∃ u : Fin 32, bits .or .i64 (wrap64 ((x.val : Int) / 2 ^ j.val * 2 ^ j.val)) (wrap64 (2 ^ j.val)) = (u.val : Int) := by decide +kernel

theorem shr32' (x : Fin 32) (j : Nat) (hj : j < 5) : ∃ u : Fin 32, bits .or .i64 (wrap64 ((x.val : Int) / 2 ^ j * 2 ^ j)) (wrap64 (2 ^ j)) = (u.val : Int) := shr32 x ⟨j, hj⟩

theorem In32.set {xs : List Int} (h : In32 xs) (j : Nat) (u : Fin 32) : In32 (xs.set j (u.val : Int)) := by
  intro k
  unfold rowAt
  rw [List.getD_eq_getElem?_getD, List.getElem?_set]
  split
  · split
    · exact ⟨u, rfl⟩
    · exact ⟨0, rfl⟩
  · have := h k
    unfold rowAt at this
    rwa [List.getD_eq_getElem?_getD] at this




set_option maxRecDepth 100000 in
set_option maxHeartbeats 8000000 in
theorem l91Rel32_any {w : World} {R : Nat} {ao : Option Addr} {bs : List Nat} {c p : Nat} (S : DrS w w R ao bs c p) (hb : RdB w ao bs) (hbR : bs ≠ [] → ∀ a, ao = some a → a.block < R) (hl : bs.length ≤ 2000) (hp : p ≤ 1000) (n : Nat) (ni : Int) (hni : ni = (n : Int)) (h1 : 1 ≤ n) (h4 : n ≤ 5) :
    Calls Tryz.prog 34 #[.pointer (some ⟨R, 0, none⟩), .int .i64 ni] w fun e w' => ∃ (v : Value) (rs : List Int) (q : Nat), e = .returned v ∧ rs.length = n ∧ w'.ownsRow w.heap.size 3 1 v n (rs.map (Value.int .i64)) ∧ q ≤ p + 16 ∧ DrS w w' R ao bs c q := by
  subst hni
  have hRw : R < w.heap.size := (Array.getElem?_eq_some_iff.1 S.rd).1
  have HP := Lib.hid (fun (wr : World) (p : Nat) (S : DrS w wr R ao bs c p) (hp : p ≤ 1048576) => pick_step S hb hbR hl hp)
  obtain ⟨i0, hi, hz0, hz1, hz2⟩ := info_parts Tryz.info3
  obtain ⟨M, hM, hM1, hM2⟩ : ∃ M : Nat, wrap64 (2 ^ n) = (M : Int) ∧ 1 ≤ M ∧ M ≤ 32 := by
    rcases (by omega : n = 1 ∨ n = 2 ∨ n = 3 ∨ n = 4 ∨ n = 5) with rfl | rfl | rfl | rfl | rfl
    · exact ⟨2, by decide +kernel, by omega, by omega⟩
    · exact ⟨4, by decide +kernel, by omega, by omega⟩
    · exact ⟨8, by decide +kernel, by omega, by omega⟩
    · exact ⟨16, by decide +kernel, by omega, by omega⟩
    · exact ⟨32, by decide +kernel, by omega, by omega⟩
  go_enter Tryz.func34, Tryz.ntmps34
  go_wp2_with fail
  have S0 : DrS w (w.alloc (.cells #[] 3)) R ao bs c p := ⟨(Below.heap_alloc w _ R hRw).trans S.rd, (below_one w _).mono (by omega), by simp, fun b hlt _ => Below.heap_alloc w _ b hlt⟩
  refine (HP.out _ p S0 (by omega) 6 _ rfl (by omega) (by omega)).mono ?_
  rintro e w1 ⟨kd, hkd, rfl, S1, hs1, hown, _⟩
  have ho1 := hown _ _ _ _ hRw (row_lit0 w)
  clear hown S0 S
  rcases (by omega : kd = 0 ∨ kd = 1 ∨ kd = 2 ∨ kd = 3 ∨ kd = 4 ∨ kd = 5) with rfl | rfl | rfl | rfl | rfl | rfl
  · go_wp2
    go_loopw [5, 7, 8] (fun v i _ wr => ∃ k : Nat, k ≤ n ∧ i = .int .i64 k ∧ DrI32 w wr R ao bs c p k v)
      (fun _ i _ _ => n - (intOf i).toNat)
    case atStart => exact ⟨0, Nat.zero_le _, rfl, p + 1, [], rfl, fun k => ⟨0, by simp [rowAt]⟩, by omega, ho1, S1⟩
    case round =>
      clear ho1 S1 hs1
      obtain ⟨k, hk, rfl, q, rs, hrl, hrs, hq, ho, S⟩ := hrel
      by_cases hlt : k < n
      · go_wp2_with fail
        refine (HP.out _ q S (by omega) M _ rfl (by omega) (by omega)).mono ?_
        rintro e wc ⟨x, hx, rfl, S1, hs1, hown, _⟩
        have ho1 := hown _ _ _ _ hRw ho
        clear hown S ho
        have S := S1
        have ho := ho1
        clear S1 ho1
        go_wp2_with (at_builtin; refine wpList_append_own _ rfl (.tmp 45) (.tmp 47) 23 rfl w.heap.size 3 i0 (.int .i64 0) 1 8 Tryz.underlying23 hi hz0 hz1 hz2 rfl (by decide) _ _ _ rfl (ho.alloc _) ⟨wc.heap.size, 0, none⟩ 1 1 [_] rfl rfl (cell_one_new _ _ _) (by simp [Value.oneCell']) (by unfold maxLen; omega) (by omega) (by have := S.sz; simp; omega) ?_)
        intro v' w2 hown' hgrow _
        have hb' := own_step' ho (Below.refl _ _) S.sz _ hgrow
        have S' := S.step hRw hb'
        obtain ⟨u, hu⟩ := (⟨⟨x, by omega⟩, rfl⟩ : ∃ u : Fin 32, _ = (u.val : Int))
        rw [hu, map_snoc] at hown'
        clear ho S hgrow hb' HP
        go_wp2
        go_roundw
        case rel => exact ⟨k + 1, by omega, by go_num, _, rs ++ [(u.val : Int)], by rw [List.length_append, hrl]; rfl, hrs.snoc u, (by first | (show q + 1 + 1 ≤ _; omega) | (show q + 1 ≤ _; omega)), hown', S'⟩
        case measure => simp [intOf]; omega
      · have hkn : k = n := by omega
        subst hkn
        obtain ⟨g, cap, rfl, hg1, hg2⟩ := own_form ho h1
        obtain ⟨wc, hwc⟩ : ∃ wc, wr = wc := ⟨_, rfl⟩
        rw [hwc] at ho S hg2 ⊢
        clear hwc
        go_wp2_with fail
        refine (HP.out _ _ S (by omega) 40 _ rfl (by omega) (by omega)).mono ?_
        rintro e wd ⟨z, hz, rfl, S2, hs2, hown, _⟩
        have ho2 := hown _ _ _ _ hRw ho
        clear hown S ho HP
        by_cases hz0 : z = 0
        · subst hz0
          obtain ⟨y0, hy0⟩ : ∃ y, (rs.map (Value.int .i64))[0]? = some y := ⟨_, List.getElem?_eq_getElem (by simp; omega)⟩
          have hc1 := ho2.cellAt 0 (by omega)
          have hf1 := ho2.frozenAt 0
          rw [hy0] at hc1
          clear hy0
          go_wp2
          go_ret
          have h := (ho2.stored 0 (.int .i64 (M : Int))).1
          rw [← List.map_set] at h
          exact ⟨_, rs.set 0 (M : Int), _, rfl, by rw [List.length_set]; exact hrl, h, (by first | (show q + 1 ≤ _; omega) | (show q + 1 + 1 ≤ _; omega)), S2.step hRw ((Below.refl _ _).setCell (by simp; omega) _)⟩
        · have e0 : (((z : Nat) : Int) == 0) = false := beq_eq_false_iff_ne.2 (by omega)
          go_wp2
          go_ret
          exact ⟨_, rs, _, rfl, hrl, ho2, (by first | (show q + 1 ≤ _; omega) | (show q + 1 + 1 ≤ _; omega)), S2⟩
  · go_wp2
    go_loopw [5, 7, 8] (fun v i _ wr => ∃ k : Nat, k ≤ n ∧ i = .int .i64 k ∧ DrI32 w wr R ao bs c p k v)
      (fun _ i _ _ => n - (intOf i).toNat)
    case atStart => exact ⟨0, Nat.zero_le _, rfl, p + 1, [], rfl, fun k => ⟨0, by simp [rowAt]⟩, by omega, ho1, S1⟩
    case round =>
      clear ho1 S1 hs1
      obtain ⟨k, hk, rfl, q, rs, hrl, hrs, hq, ho, S⟩ := hrel
      by_cases hlt : k < n
      · go_wp2_with fail
        refine (HP.out _ q S (by omega) M _ rfl (by omega) (by omega)).mono ?_
        rintro e wc ⟨x, hx, rfl, S1, hs1, hown, _⟩
        have ho1 := hown _ _ _ _ hRw ho
        clear hown S ho
        go_wp2_with fail
        refine (HP.out _ _ S1 (by omega) M _ rfl (by omega) (by omega)).mono ?_
        rintro e wc ⟨y, hy, rfl, S, hs2, hown, _⟩
        have ho := hown _ _ _ _ hRw ho1
        clear hown S1 ho1
        go_wp2_with (at_builtin; refine wpList_append_own _ rfl (.tmp 45) (.tmp 47) 23 rfl w.heap.size 3 i0 (.int .i64 0) 1 8 Tryz.underlying23 hi hz0 hz1 hz2 rfl (by decide) _ _ _ rfl (ho.alloc _) ⟨wc.heap.size, 0, none⟩ 1 1 [_] rfl rfl (cell_one_new _ _ _) (by simp [Value.oneCell']) (by unfold maxLen; omega) (by omega) (by have := S.sz; simp; omega) ?_)
        intro v' w2 hown' hgrow _
        have hb' := own_step' ho (Below.refl _ _) S.sz _ hgrow
        have S' := S.step hRw hb'
        obtain ⟨u, hu⟩ := ((and3232 ⟨x, by omega⟩ ⟨y, by omega⟩) : ∃ u : Fin 32, _ = (u.val : Int))
        rw [hu, map_snoc] at hown'
        clear ho S hgrow hb' HP
        go_wp2
        go_roundw
        case rel => exact ⟨k + 1, by omega, by go_num, _, rs ++ [(u.val : Int)], by rw [List.length_append, hrl]; rfl, hrs.snoc u, (by first | (show q + 1 + 1 ≤ _; omega) | (show q + 1 ≤ _; omega)), hown', S'⟩
        case measure => simp [intOf]; omega
      · have hkn : k = n := by omega
        subst hkn
        obtain ⟨g, cap, rfl, hg1, hg2⟩ := own_form ho h1
        obtain ⟨wc, hwc⟩ : ∃ wc, wr = wc := ⟨_, rfl⟩
        rw [hwc] at ho S hg2 ⊢
        clear hwc
        go_wp2_with fail
        refine (HP.out _ _ S (by omega) 40 _ rfl (by omega) (by omega)).mono ?_
        rintro e wd ⟨z, hz, rfl, S2, hs2, hown, _⟩
        have ho2 := hown _ _ _ _ hRw ho
        clear hown S ho HP
        by_cases hz0 : z = 0
        · subst hz0
          obtain ⟨y0, hy0⟩ : ∃ y, (rs.map (Value.int .i64))[0]? = some y := ⟨_, List.getElem?_eq_getElem (by simp; omega)⟩
          have hc1 := ho2.cellAt 0 (by omega)
          have hf1 := ho2.frozenAt 0
          rw [hy0] at hc1
          clear hy0
          go_wp2
          go_ret
          have h := (ho2.stored 0 (.int .i64 (M : Int))).1
          rw [← List.map_set] at h
          exact ⟨_, rs.set 0 (M : Int), _, rfl, by rw [List.length_set]; exact hrl, h, (by first | (show q + 1 ≤ _; omega) | (show q + 1 + 1 ≤ _; omega)), S2.step hRw ((Below.refl _ _).setCell (by simp; omega) _)⟩
        · have e0 : (((z : Nat) : Int) == 0) = false := beq_eq_false_iff_ne.2 (by omega)
          go_wp2
          go_ret
          exact ⟨_, rs, _, rfl, hrl, ho2, (by first | (show q + 1 ≤ _; omega) | (show q + 1 + 1 ≤ _; omega)), S2⟩
  · go_wp2
    go_loopw [5, 7, 8] (fun v i _ wr => ∃ k : Nat, k ≤ n ∧ i = .int .i64 k ∧ DrI32 w wr R ao bs c p k v)
      (fun _ i _ _ => n - (intOf i).toNat)
    case atStart => exact ⟨0, Nat.zero_le _, rfl, p + 1, [], rfl, fun k => ⟨0, by simp [rowAt]⟩, by omega, ho1, S1⟩
    case round =>
      clear ho1 S1 hs1
      obtain ⟨k, hk, rfl, q, rs, hrl, hrs, hq, ho, S⟩ := hrel
      by_cases hlt : k < n
      · go_wp2_with fail
        refine (HP.out _ q S (by omega) M _ rfl (by omega) (by omega)).mono ?_
        rintro e wc ⟨x, hx, rfl, S1, hs1, hown, _⟩
        have ho1 := hown _ _ _ _ hRw ho
        clear hown S ho
        go_wp2_with fail
        refine (HP.out _ _ S1 (by omega) n _ rfl (by omega) (by omega)).mono ?_
        rintro e wc ⟨y, hy, rfl, S, hs2, hown, _⟩
        have ho := hown _ _ _ _ hRw ho1
        have hpt := pt_wrap32 y (by omega)
        obtain ⟨z, hz⟩ := pt32 y (by omega)
        rw [hz] at hpt
        clear hown S1 ho1
        go_wp2_with (at_builtin; refine wpList_append_own _ rfl (.tmp 45) (.tmp 47) 23 rfl w.heap.size 3 i0 (.int .i64 0) 1 8 Tryz.underlying23 hi hz0 hz1 hz2 rfl (by decide) _ _ _ rfl (ho.alloc _) ⟨wc.heap.size, 0, none⟩ 1 1 [_] rfl rfl (cell_one_new _ _ _) (by simp [Value.oneCell']) (by unfold maxLen; omega) (by omega) (by have := S.sz; simp; omega) ?_)
        intro v' w2 hown' hgrow _
        have hb' := own_step' ho (Below.refl _ _) S.sz _ hgrow
        have S' := S.step hRw hb'
        obtain ⟨u, hu⟩ := (⟨z, rfl⟩ : ∃ u : Fin 32, _ = (u.val : Int))
        rw [hu, map_snoc] at hown'
        clear ho S hgrow hb' HP
        go_wp2
        go_roundw
        case rel => exact ⟨k + 1, by omega, by go_num, _, rs ++ [(u.val : Int)], by rw [List.length_append, hrl]; rfl, hrs.snoc u, (by first | (show q + 1 + 1 ≤ _; omega) | (show q + 1 ≤ _; omega)), hown', S'⟩
        case measure => simp [intOf]; omega
      · have hkn : k = n := by omega
        subst hkn
        obtain ⟨g, cap, rfl, hg1, hg2⟩ := own_form ho h1
        obtain ⟨wc, hwc⟩ : ∃ wc, wr = wc := ⟨_, rfl⟩
        rw [hwc] at ho S hg2 ⊢
        clear hwc
        go_wp2_with fail
        refine (HP.out _ _ S (by omega) 40 _ rfl (by omega) (by omega)).mono ?_
        rintro e wd ⟨z, hz, rfl, S2, hs2, hown, _⟩
        have ho2 := hown _ _ _ _ hRw ho
        clear hown S ho HP
        by_cases hz0 : z = 0
        · subst hz0
          obtain ⟨y0, hy0⟩ : ∃ y, (rs.map (Value.int .i64))[0]? = some y := ⟨_, List.getElem?_eq_getElem (by simp; omega)⟩
          have hc1 := ho2.cellAt 0 (by omega)
          have hf1 := ho2.frozenAt 0
          rw [hy0] at hc1
          clear hy0
          go_wp2
          go_ret
          have h := (ho2.stored 0 (.int .i64 (M : Int))).1
          rw [← List.map_set] at h
          exact ⟨_, rs.set 0 (M : Int), _, rfl, by rw [List.length_set]; exact hrl, h, (by first | (show q + 1 ≤ _; omega) | (show q + 1 + 1 ≤ _; omega)), S2.step hRw ((Below.refl _ _).setCell (by simp; omega) _)⟩
        · have e0 : (((z : Nat) : Int) == 0) = false := beq_eq_false_iff_ne.2 (by omega)
          go_wp2
          go_ret
          exact ⟨_, rs, _, rfl, hrl, ho2, (by first | (show q + 1 ≤ _; omega) | (show q + 1 + 1 ≤ _; omega)), S2⟩
  · go_wp2
    go_loopw [5, 7, 8] (fun v i _ wr => ∃ k : Nat, k ≤ n ∧ i = .int .i64 k ∧ DrI32 w wr R ao bs c p k v)
      (fun _ i _ _ => n - (intOf i).toNat)
    case atStart => exact ⟨0, Nat.zero_le _, rfl, p + 1, [], rfl, fun k => ⟨0, by simp [rowAt]⟩, by omega, ho1, S1⟩
    case round =>
      clear ho1 S1 hs1
      obtain ⟨k, hk, rfl, q, rs, hrl, hrs, hq, ho, S⟩ := hrel
      by_cases hlt : k < n
      · go_wp2_with fail
        refine (HP.out _ q S (by omega) M _ rfl (by omega) (by omega)).mono ?_
        rintro e wc ⟨x, hx, rfl, S1, hs1, hown, _⟩
        have ho1 := hown _ _ _ _ hRw ho
        clear hown S ho
        have S := S1
        have ho := ho1
        have hpt := pt_wrap32 k (by omega)
        obtain ⟨y, hy⟩ := pt32 k (by omega)
        rw [hy] at hpt
        clear S1 ho1
        go_wp2_with (at_builtin; refine wpList_append_own _ rfl (.tmp 45) (.tmp 47) 23 rfl w.heap.size 3 i0 (.int .i64 0) 1 8 Tryz.underlying23 hi hz0 hz1 hz2 rfl (by decide) _ _ _ rfl (ho.alloc _) ⟨wc.heap.size, 0, none⟩ 1 1 [_] rfl rfl (cell_one_new _ _ _) (by simp [Value.oneCell']) (by unfold maxLen; omega) (by omega) (by have := S.sz; simp; omega) ?_)
        intro v' w2 hown' hgrow _
        have hb' := own_step' ho (Below.refl _ _) S.sz _ hgrow
        have S' := S.step hRw hb'
        obtain ⟨u, hu⟩ := ((or3232 ⟨x, by omega⟩ y) : ∃ u : Fin 32, _ = (u.val : Int))
        rw [hu, map_snoc] at hown'
        clear ho S hgrow hb' HP
        go_wp2
        go_roundw
        case rel => exact ⟨k + 1, by omega, by go_num, _, rs ++ [(u.val : Int)], by rw [List.length_append, hrl]; rfl, hrs.snoc u, (by first | (show q + 1 + 1 ≤ _; omega) | (show q + 1 ≤ _; omega)), hown', S'⟩
        case measure => simp [intOf]; omega
      · have hkn : k = n := by omega
        subst hkn
        obtain ⟨g, cap, rfl, hg1, hg2⟩ := own_form ho h1
        obtain ⟨wc, hwc⟩ : ∃ wc, wr = wc := ⟨_, rfl⟩
        rw [hwc] at ho S hg2 ⊢
        clear hwc
        go_wp2_with fail
        refine (HP.out _ _ S (by omega) 40 _ rfl (by omega) (by omega)).mono ?_
        rintro e wd ⟨z, hz, rfl, S2, hs2, hown, _⟩
        have ho2 := hown _ _ _ _ hRw ho
        clear hown S ho HP
        by_cases hz0 : z = 0
        · subst hz0
          obtain ⟨y0, hy0⟩ : ∃ y, (rs.map (Value.int .i64))[0]? = some y := ⟨_, List.getElem?_eq_getElem (by simp; omega)⟩
          have hc1 := ho2.cellAt 0 (by omega)
          have hf1 := ho2.frozenAt 0
          rw [hy0] at hc1
          clear hy0
          go_wp2
          go_ret
          have h := (ho2.stored 0 (.int .i64 (M : Int))).1
          rw [← List.map_set] at h
          exact ⟨_, rs.set 0 (M : Int), _, rfl, by rw [List.length_set]; exact hrl, h, (by first | (show q + 1 ≤ _; omega) | (show q + 1 + 1 ≤ _; omega)), S2.step hRw ((Below.refl _ _).setCell (by simp; omega) _)⟩
        · have e0 : (((z : Nat) : Int) == 0) = false := beq_eq_false_iff_ne.2 (by omega)
          go_wp2
          go_ret
          exact ⟨_, rs, _, rfl, hrl, ho2, (by first | (show q + 1 ≤ _; omega) | (show q + 1 + 1 ≤ _; omega)), S2⟩
  · go_wp2
    go_loopw [5, 7, 8] (fun v i _ wr => ∃ k : Nat, k ≤ n ∧ i = .int .i64 k ∧ DrI32 w wr R ao bs c p k v)
      (fun _ i _ _ => n - (intOf i).toNat)
    case atStart => exact ⟨0, Nat.zero_le _, rfl, p + 1, [], rfl, fun k => ⟨0, by simp [rowAt]⟩, by omega, ho1, S1⟩
    case round =>
      clear ho1 S1 hs1
      obtain ⟨k, hk, rfl, q, rs, hrl, hrs, hq, ho, S⟩ := hrel
      by_cases hlt : k < n
      · go_wp2_with fail
        refine (HP.out _ q S (by omega) M _ rfl (by omega) (by omega)).mono ?_
        rintro e wc ⟨x, hx, rfl, S1, hs1, hown, _⟩
        have ho1 := hown _ _ _ _ hRw ho
        clear hown S ho
        have S := S1
        have ho := ho1
        clear S1 ho1
        go_wp2_with (at_builtin; refine wpList_append_own _ rfl (.tmp 45) (.tmp 47) 23 rfl w.heap.size 3 i0 (.int .i64 0) 1 8 Tryz.underlying23 hi hz0 hz1 hz2 rfl (by decide) _ _ _ rfl (ho.alloc _) ⟨wc.heap.size, 0, none⟩ 1 1 [_] rfl rfl (cell_one_new _ _ _) (by simp [Value.oneCell']) (by unfold maxLen; omega) (by omega) (by have := S.sz; simp; omega) ?_)
        intro v' w2 hown' hgrow _
        have hb' := own_step' ho (Below.refl _ _) S.sz _ hgrow
        have S' := S.step hRw hb'
        obtain ⟨u, hu⟩ := (⟨⟨x, by omega⟩, rfl⟩ : ∃ u : Fin 32, _ = (u.val : Int))
        rw [hu, map_snoc] at hown'
        clear ho S hgrow hb' HP
        go_wp2
        go_roundw
        case rel => exact ⟨k + 1, by omega, by go_num, _, rs ++ [(u.val : Int)], by rw [List.length_append, hrl]; rfl, hrs.snoc u, (by first | (show q + 1 + 1 ≤ _; omega) | (show q + 1 ≤ _; omega)), hown', S'⟩
        case measure => simp [intOf]; omega
      · have hkn : k = n := by omega
        subst hkn
        obtain ⟨g, cap, rfl, hg1, hg2⟩ := own_form ho h1
        obtain ⟨wc, hwc⟩ : ∃ wc, wr = wc := ⟨_, rfl⟩
        rw [hwc] at ho S hg2 ⊢
        clear hwc
        have ho0 := own_keep ho (below_one wc (.cells #[.string ⟨#[114, 115, 116]⟩, .string ⟨#[115, 116]⟩, .string ⟨#[114, 116]⟩, .string ⟨#[116]⟩, .string ⟨#[115]⟩, .string ⟨#[114]⟩] 9)) (fun q hq => by cases hq; exact hg2)
        have S0 := S.step hRw ((Below.refl w.heap.size wc).alloc S.sz (.cells #[.string ⟨#[114, 115, 116]⟩, .string ⟨#[115, 116]⟩, .string ⟨#[114, 116]⟩, .string ⟨#[116]⟩, .string ⟨#[115]⟩, .string ⟨#[114]⟩] 9))
        have hwR : wc.heap.size ≠ R := by have := S.sz; omega
        have HOF := Lib.hid (of_step S0 hb hbR hl (by omega) wc.heap.size 6 six hwR (six_cells wc) (by decide) (by decide))
        clear S ho S0
        go_wp2_with fail
        refine HOF.out.mono ?_
        rintro e wd ⟨st, hst, rfl, S, hs2, hown⟩
        have ho := hown _ _ _ _ hRw ho0
        have hc := kindLeast_any (some ⟨g, 0, none⟩) cap rs st wd (by omega) (six_size st hst) (rd_own ho hrl)
        rw [hrl] at hc
        have hgd := (ho.lt g rfl).2
        clear HOF hown ho0 hst
        cases hB : leastB rs st with
        | true =>
          rw [hB] at hc
          have HC := Lib.hid hc
          clear hc hB
          go_wp2_with fail
          refine HC.out.mono ?_
          rintro e we ⟨v2, rfl, hm, hb2⟩
          rw [show (ifR true (leastL rs st)).length = k from (leastL_len rs st).trans hrl, show ifR true (leastL rs st) = leastL rs st from rfl] at hm
          have hrl2 := (leastL_len rs st).trans hrl
          obtain ⟨rs, hrs2⟩ : ∃ rs', rs' = leastL rs st := ⟨_, rfl⟩
          rw [← hrs2] at hm hrl2
          have hrl := hrl2
          have ho := own_mono hm S.sz
          have S := S.step hRw (hb2.mono S.sz)
          obtain ⟨g, cap, rfl, hg1, hg2⟩ := own_form ho h1
          clear hm hb2 HC hrs2
          go_wp2_with fail
          refine (HP.out _ _ S (by omega) 40 _ rfl (by omega) (by omega)).mono ?_
          rintro e wd ⟨z, hz, rfl, S2, hs2, hown, _⟩
          have ho2 := hown _ _ _ _ hRw ho
          clear hown S ho HP
          by_cases hz0 : z = 0
          · subst hz0
            obtain ⟨y0, hy0⟩ : ∃ y, (rs.map (Value.int .i64))[0]? = some y := ⟨_, List.getElem?_eq_getElem (by simp; omega)⟩
            have hc1 := ho2.cellAt 0 (by omega)
            have hf1 := ho2.frozenAt 0
            rw [hy0] at hc1
            clear hy0
            go_wp2
            go_ret
            have h := (ho2.stored 0 (.int .i64 (M : Int))).1
            rw [← List.map_set] at h
            exact ⟨_, rs.set 0 (M : Int), _, rfl, by rw [List.length_set]; exact hrl, h, (by first | (show q + 1 ≤ _; omega) | (show q + 1 + 1 ≤ _; omega)), S2.step hRw ((Below.refl _ _).setCell (by simp; omega) _)⟩
          · have e0 : (((z : Nat) : Int) == 0) = false := beq_eq_false_iff_ne.2 (by omega)
            go_wp2
            go_ret
            exact ⟨_, rs, _, rfl, hrl, ho2, (by first | (show q + 1 ≤ _; omega) | (show q + 1 + 1 ≤ _; omega)), S2⟩
        | false =>
          rw [hB] at hc
          have HC := Lib.hid hc
          clear hc hB
          go_wp2_with fail
          refine HC.out.mono ?_
          rintro e we ⟨v2, rfl, hm, hb2⟩
          have ho := own_keep ho hb2 (fun q hq => by cases hq; exact hgd)
          have S := S.step hRw (hb2.mono S.sz)
          clear hm hb2 HC
          go_wp2_with fail
          refine (HP.out _ _ S (by omega) 40 _ rfl (by omega) (by omega)).mono ?_
          rintro e wd ⟨z, hz, rfl, S2, hs2, hown, _⟩
          have ho2 := hown _ _ _ _ hRw ho
          clear hown S ho HP
          by_cases hz0 : z = 0
          · subst hz0
            obtain ⟨y0, hy0⟩ : ∃ y, (rs.map (Value.int .i64))[0]? = some y := ⟨_, List.getElem?_eq_getElem (by simp; omega)⟩
            have hc1 := ho2.cellAt 0 (by omega)
            have hf1 := ho2.frozenAt 0
            rw [hy0] at hc1
            clear hy0
            go_wp2
            go_ret
            have h := (ho2.stored 0 (.int .i64 (M : Int))).1
            rw [← List.map_set] at h
            exact ⟨_, rs.set 0 (M : Int), _, rfl, by rw [List.length_set]; exact hrl, h, (by first | (show q + 1 ≤ _; omega) | (show q + 1 + 1 ≤ _; omega)), S2.step hRw ((Below.refl _ _).setCell (by simp; omega) _)⟩
          · have e0 : (((z : Nat) : Int) == 0) = false := beq_eq_false_iff_ne.2 (by omega)
            go_wp2
            go_ret
            exact ⟨_, rs, _, rfl, hrl, ho2, (by first | (show q + 1 ≤ _; omega) | (show q + 1 + 1 ≤ _; omega)), S2⟩
  · go_wp2
    go_loopw [5, 7, 8] (fun v i _ wr => ∃ k : Nat, k ≤ n ∧ i = .int .i64 k ∧ DrI32 w wr R ao bs c p k v)
      (fun _ i _ _ => n - (intOf i).toNat)
    case atStart => exact ⟨0, Nat.zero_le _, rfl, p + 1, [], rfl, fun k => ⟨0, by simp [rowAt]⟩, by omega, ho1, S1⟩
    case round =>
      clear ho1 S1 hs1
      obtain ⟨k, hk, rfl, q, rs, hrl, hrs, hq, ho, S⟩ := hrel
      by_cases hlt : k < n
      · go_wp2_with fail
        refine (HP.out _ q S (by omega) M _ rfl (by omega) (by omega)).mono ?_
        rintro e wc ⟨x, hx, rfl, S1, hs1, hown, _⟩
        have ho1 := hown _ _ _ _ hRw ho
        clear hown S ho
        have S := S1
        have ho := ho1
        clear S1 ho1
        go_wp2_with (at_builtin; refine wpList_append_own _ rfl (.tmp 45) (.tmp 47) 23 rfl w.heap.size 3 i0 (.int .i64 0) 1 8 Tryz.underlying23 hi hz0 hz1 hz2 rfl (by decide) _ _ _ rfl (ho.alloc _) ⟨wc.heap.size, 0, none⟩ 1 1 [_] rfl rfl (cell_one_new _ _ _) (by simp [Value.oneCell']) (by unfold maxLen; omega) (by omega) (by have := S.sz; simp; omega) ?_)
        intro v' w2 hown' hgrow _
        have hb' := own_step' ho (Below.refl _ _) S.sz _ hgrow
        have S' := S.step hRw hb'
        obtain ⟨u, hu⟩ := (⟨⟨x, by omega⟩, rfl⟩ : ∃ u : Fin 32, _ = (u.val : Int))
        rw [hu, map_snoc] at hown'
        clear ho S hgrow hb' HP
        go_wp2
        go_roundw
        case rel => exact ⟨k + 1, by omega, by go_num, _, rs ++ [(u.val : Int)], by rw [List.length_append, hrl]; rfl, hrs.snoc u, (by first | (show q + 1 + 1 ≤ _; omega) | (show q + 1 ≤ _; omega)), hown', S'⟩
        case measure => simp [intOf]; omega
      · have hkn : k = n := by omega
        subst hkn
        obtain ⟨g, cap, rfl, hg1, hg2⟩ := own_form ho h1
        obtain ⟨wc, hwc⟩ : ∃ wc, wr = wc := ⟨_, rfl⟩
        rw [hwc] at ho S hg2 ⊢
        clear hwc
        go_wp2
        go_loopw [11] (fun i wr => ∃ (j : Nat) (zs : List Int), j ≤ k ∧ i = .int .i64 j ∧ zs.length = k ∧ In32 zs ∧ wr.ownsRow w.heap.size 3 1 (.slice (some ⟨g, 0, none⟩) k cap) k (zs.map (Value.int .i64)) ∧ DrS w wr R ao bs c q)
          (fun i _ => k - (intOf i).toNat)
        case atStart => exact ⟨0, rs, Nat.zero_le _, rfl, hrl, hrs, ho, S⟩
        case round =>
          clear ho S hrl hrs
          obtain ⟨j, zs, hj, rfl, hzl, hzs, ho, S⟩ := hrel
          by_cases hlj : j < k
          · have hc1 := ho.cellAt j (by omega)
            have hf1 := ho.frozenAt j
            have hz1' : (zs.map (Value.int .i64))[j]? = some (.int .i64 (rowAt zs j)) := by rw [List.getElem?_map, rowAt_get (by omega)]; rfl
            obtain ⟨x, hx⟩ := hzs j
            rw [hz1', hx] at hc1
            have hj1 : ((j : Nat) : Int) < (k : Int) := by omega
            have HX := Lib.hid (And.intro hzl hzs)
            clear hz1' hx hzl hzs HP
            go_wp2
            go_region
            all_goals
              obtain ⟨u, hu⟩ := shr32' x j (by omega)
              have hl2 : (zs.set j (u.val : Int)).length = k := by rw [List.length_set]; exact HX.out.1
              have hs2 := HX.out.2.set j u
              have h := (ho.stored j (.int .i64 (bits .or .i64 (wrap64 ((x.val : Int) / 2 ^ j * 2 ^ j)) (wrap64 (2 ^ j))))).1
              have hd := h.drew
              rw [hu, ← List.map_set] at hd
              have S2 := S.step hRw ((Below.refl w.heap.size wr).drew.setCell (p := ⟨g, j, none⟩) (by simp; omega) (.int .i64 (bits .or .i64 (wrap64 ((x.val : Int) / 2 ^ j * 2 ^ j)) (wrap64 (2 ^ j)))))
              rw [hu] at S2
              have HD := Lib.hid (And.intro hl2 (And.intro hs2 (And.intro hd S2)))
              clear hl2 hs2 h hd S2 ho S
              rw [hu]
              go_wp2
              go_roundw
              case rel => exact ⟨j + 1, _, by omega, by go_num, HD.out.1, HD.out.2.1, HD.out.2.2.1, HD.out.2.2.2⟩
              case measure => simp [intOf]; omega
          · have hc := l2Reach32_any (some ⟨g, 0, none⟩) cap zs wr (by omega) (by omega) hzs (rd_own ho hzl)
            rw [hzl] at hc
            have HC := Lib.hid hc
            clear hc
            go_wp2_with fail
            refine HC.out.mono ?_
            rintro e we ⟨v2, rfl, hm, hb2⟩
            have hrl := (reachTo_len zs zs.length).trans hzl
            obtain ⟨rs, hrs2⟩ : ∃ rs', rs' = reachL zs := ⟨_, rfl⟩
            rw [show reachTo zs zs.length = rs from hrs2.symm] at hrl
            rw [← hrs2] at hm
            have ho := own_mono hm S.sz
            have S := S.step hRw (hb2.mono S.sz)
            obtain ⟨g, cap, rfl, hg1, hg2⟩ := own_form ho h1
            clear hm hb2 HC hrs2
            go_wp2_with fail
            refine (HP.out _ _ S (by omega) 40 _ rfl (by omega) (by omega)).mono ?_
            rintro e wd ⟨z, hz, rfl, S2, hs2, hown, _⟩
            have ho2 := hown _ _ _ _ hRw ho
            clear hown S ho HP
            by_cases hz0 : z = 0
            · subst hz0
              obtain ⟨y0, hy0⟩ : ∃ y, (rs.map (Value.int .i64))[0]? = some y := ⟨_, List.getElem?_eq_getElem (by simp; omega)⟩
              have hc1 := ho2.cellAt 0 (by omega)
              have hf1 := ho2.frozenAt 0
              rw [hy0] at hc1
              clear hy0
              go_wp2
              go_ret
              have h := (ho2.stored 0 (.int .i64 (M : Int))).1
              rw [← List.map_set] at h
              exact ⟨_, rs.set 0 (M : Int), _, rfl, by rw [List.length_set]; exact hrl, h, (by first | (show q + 1 ≤ _; omega) | (show q + 1 + 1 ≤ _; omega)), S2.step hRw ((Below.refl _ _).setCell (by simp; omega) _)⟩
            · have e0 : (((z : Nat) : Int) == 0) = false := beq_eq_false_iff_ne.2 (by omega)
              go_wp2
              go_ret
              exact ⟨_, rs, _, rfl, hrl, ho2, (by first | (show q + 1 ≤ _; omega) | (show q + 1 + 1 ≤ _; omega)), S2⟩
end Go.Proofs.YthdnpcpimggjnaaGreatDoor

namespace Go.Proofs.YthdnpcpimggjnaaGreatDoor
open Go.RowKit

/-- what a draw gives: a list of its own, of at most 4 numbers -/
def Drew (w : World) (e : Ending) (w' : World) : Prop :=
  ∃ (v : Value) (rs : List Int), e = .returned v ∧ rs.length ≤ 4 ∧ w'.ownsRow w.heap.size 3 1 v rs.length (rs.map (Value.int .i64)) ∧ Below w.heap.size w w'

theorem l91Some_any (ao : Option Addr) (c : Nat) (bs : List Nat) (w : World) (hb : RdB w ao bs) (hc : bs.length ≤ c) (hbA : bs ≠ [] → ∀ a, ao = some a → a.block < w.heap.size) :
    Calls Tryz.prog 15 #[.slice ao bs.length c] w (Drew w) := by
  have HB := Lib.hid (And.intro hb hbA)
  clear hb hbA
  go_enter Tryz.func15, Tryz.ntmps15
  go_wp2_with fail
  refine (open_any ao c bs w hc).mono ?_
  rintro e w1 ⟨bs', hbs, rfl, hr, hB⟩
  have hl : bs'.length ≤ 2000 := by rw [hbs, List.length_take]; omega
  have hA : bs' ≠ [] → ∀ a, ao = some a → a.block < w.heap.size := fun h => HB.out.2 (fun e => h (by rw [hbs, e]; rfl))
  have HA := Lib.hid hA
  clear hA
  have hb1 : RdB w1 ao bs' := by rw [hbs]; exact (HB.out.1.take 2000).below hB
  have S : DrS w1 w1 w.heap.size ao bs' c 0 := ⟨hr, Below.refl _ _, Nat.le_refl _, fun _ _ _ => rfl⟩
  have HC := Lib.hid (pick_step S hb1 HA.out hl (by omega) 4 4 rfl (by omega) (by omega))
  clear hr hbs
  go_wp2_with fail
  refine HC.out.mono ?_
  rintro e w2 ⟨k, hk, rfl, S2, hss, _, _⟩
  have S3 : DrS w2 w2 w.heap.size ao bs' c 1 := ⟨S2.rd, Below.refl _ _, Nat.le_refl _, fun _ _ _ => rfl⟩
  have hb2 := hb1.keep HA.out S2.bl S2.sz
  have HD := Lib.hid (l91Rel_any S3 hb2 HA.out hl (by omega) (1 + k) (1 + (k : Int)) (by omega) (by omega) (by omega))
  have hB2 : Below w.heap.size w w2 := hB.trans S2.bl
  have hsz2 := hB2.size
  have HS := Lib.hid hB2
  clear HC S S2 S3 hb1 hb2 hB hB2 hss
  go_wp2_with fail
  refine HD.out.mono ?_
  rintro e w3 ⟨v, rs, q, rfl, hrl, ho, _, S4⟩
  have HR := Lib.hid (And.intro hrl (And.intro ho S4))
  clear hrl ho S4 HD
  go_wp2
  go_ret
  exact ⟨v, rs, rfl, by have := HR.out.1; omega, by rw [HR.out.1]; exact own_mono HR.out.2.1 hsz2, HS.out.trans HR.out.2.2.bl⟩

end Go.Proofs.YthdnpcpimggjnaaGreatDoor

namespace Go.Proofs.YthdnpcpimggjnaaGreatDoor
open Go.RowKit

/-- what a draw of two gives: two lists of its own, of at most 5 numbers -/
def Drew2 (w : World) (e : Ending) (w' : World) : Prop :=
  ∃ (v u : Value) (rs ss : List Int), e = .returned (.tuple #[v, u]) ∧ rs.length ≤ 5 ∧ ss.length ≤ 5 ∧ w'.ownsRow w.heap.size 3 1 v rs.length (rs.map (Value.int .i64)) ∧ w'.ownsRow w.heap.size 3 1 u ss.length (ss.map (Value.int .i64)) ∧ Below w.heap.size w w'

theorem own_oth {w w' : World} {lo R n : Nat} {v : Value} {us : List Value} (h : w.ownsRow lo 3 1 v n us) (hR : R < lo) (hk : ∀ b, b < w.heap.size → b ≠ R → w'.heap[b]? = w.heap[b]?) : w'.ownsRow lo 3 1 v n us := by
  refine ⟨h.1, ?_⟩
  rcases h.2 with h2 | ⟨g, cap, cur, rfl, h2, h3, h4⟩
  · exact .inl h2
  · exact .inr ⟨g, cap, cur, rfl, h2, (hk g (h.lt g rfl).2 (by omega)).trans h3, h4⟩

end Go.Proofs.YthdnpcpimggjnaaGreatDoor
