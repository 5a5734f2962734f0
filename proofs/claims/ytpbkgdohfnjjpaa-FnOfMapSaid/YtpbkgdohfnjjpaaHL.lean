/-
  Relations of maps: KindOfMap of both.
-/
import Derived.Test.YtpbkgdohfnjjpaaHA
import Derived.Test.YtpbkgdohfnjjpaaAA
import Derived.Test.YtpbkgdohfnjjpaaDD
namespace Go.Proofs.Ytpbkgdohfnjjpaa
open Go.RowKit

def ofML (ps : List Int) : List Int := ps.map fun y => pt y.toNat
def ofMB (ps : List Int) : Bool := decide (1 ≤ ps.length ∧ ps.length ≤ 4) && ps.all fun y => ptB y ps.length
theorem ofM_len (ps : List Int) : (ofML ps).length = ps.length := List.length_map _
theorem ofM_bad {ps : List Int} {k : Nat} {y : Int} (h : ps[k]? = some y) (hb : ptB y ps.length = false) : ofMB ps = false := by
  unfold ofMB
  rw [Bool.and_eq_false_iff]
  right
  rw [List.all_eq_false]
  exact ⟨y, List.mem_of_getElem? h, by simp [hb]⟩
theorem ofM_take (ps : List Int) (k : Nat) (y : Int) (h : ps[k]? = some y) : (ofML ps).take (k + 1) = (ofML ps).take k ++ [pt y.toNat] := by
  unfold ofML
  rw [← List.map_take, ← List.map_take, List.take_add_one, h]
  simp
/-- the rows so far, the others being empty -/
def ofTo (ps : List Int) (k : Nat) : List Int := (ofML ps).take k ++ List.replicate (ps.length - k) 0
theorem ofTo_len (ps : List Int) (k : Nat) (hk : k ≤ ps.length) : (ofTo ps k).length = ps.length := by
  unfold ofTo
  rw [List.length_append, List.length_take, ofM_len, List.length_replicate]
  omega
theorem or_zero : ∀ j : Fin 4, bits .or .i64 0 (pt j.val) = pt j.val := by decide +kernel
theorem ofTo_step (ps : List Int) (k : Nat) (j : Nat) (h : ps[k]? = some (j : Int)) (hj : j < 4) : addPair (ofTo ps k) k j = ofTo ps (k + 1) := by
  have hk : k < ps.length := (List.getElem?_eq_some_iff.1 h).1
  have hl : ((ofML ps).take k).length = k := by rw [List.length_take, ofM_len]; omega
  obtain ⟨m, hm⟩ : ∃ m, ps.length - k = m + 1 := ⟨ps.length - k - 1, by omega⟩
  have hm2 : ps.length - (k + 1) = m := by omega
  have hz : rowAt (ofTo ps k) k = 0 := by
    unfold rowAt ofTo
    rw [List.getD_eq_getElem?_getD, List.getElem?_append_right (by omega), hl, hm, Nat.sub_self]
    rfl
  unfold addPair
  rw [hz, or_zero ⟨j, hj⟩]
  unfold ofTo
  rw [List.set_append_right _ _ (by omega), hl, Nat.sub_self, hm, hm2, List.replicate_succ, List.set_cons_zero, ofM_take ps k _ h]
  simp
theorem ofTo_all (ps : List Int) : ofTo ps ps.length = ofML ps := by
  unfold ofTo
  rw [Nat.sub_self, List.take_of_length_le (by rw [ofM_len]; exact Nat.le_refl _)]
  simp
theorem inB_pt (y : Int) (n : Nat) : inB y 0 ((n : Int) - 1) = ptB y n := by
  unfold inB ptB
  rw [Bool.eq_iff_iff, decide_eq_true_iff, decide_eq_true_iff]
  omega

set_option maxHeartbeats 4000000 in
theorem specKindOfMap_any (ao : Option Addr) (ca : Nat) (ps : List Int) (w : World) (hl : ps.length ≤ 1048576) (hx : Rd w ao ps) :
    Calls Try.prog 37 #[.slice ao ps.length ca] w (Gave w (ifR (ofMB ps) (ofML ps)) (ofMB ps)) := by
  obtain ⟨i0, hi, hz0, hz1, hz2⟩ := info_parts Try.info3
  by_cases hn : 1 ≤ ps.length ∧ ps.length ≤ 4
  · have hin : inB (ps.length : Int) 1 4 = true := decide_eq_true (by omega)
    have h6 := fun W => l6In_any (ps.length : Int) 1 4 W
    rw [hin] at h6
    have h61 := fun y W => l6In_any y 0 ((ps.length : Int) - 1) W
    have H := Lib.hid (And.intro h6 h61)
    have HN := Lib.hid hn
    obtain ⟨hn1, hn2⟩ := hn
    clear hin h6 h61
    go_enter Try.func37, Try.ntmps37
    go_wp2_with (go_at_call 61; refine (H.out.1 _).mono ?_; rintro e w1 ⟨rfl, rfl⟩)
    go_loopw [4, 5, 2, 3] (fun v i _ _ wr => ∃ k : Nat, k ≤ ps.length ∧ i = .int .i64 k ∧ (ps.take k).all (fun y => ptB y ps.length) = true ∧ wr.ownsRow w.heap.size 3 1 v k (((ofML ps).take k).map (Value.int .i64)) ∧ Below w.heap.size w wr)
      (fun _ i _ _ _ => ps.length - (intOf i).toNat)
    case atStart => exact ⟨0, Nat.zero_le _, rfl, rfl, row_lit0 w, below_one _ _⟩
    case round =>
      obtain ⟨k, hk, rfl, ha, ho, hb⟩ := hrel
      have HA := Lib.hid ha
      clear ha
      by_cases hlt : k < ps.length
      · obtain ⟨b, off, y, hyk, rfl, hbl, hc1⟩ := (hx.below hb).get k hlt
        have hi1 : ((k : Nat) : Int) < (ps.length : Int) := by omega
        have h61 := fun W => H.out.2 y W
        have hpt := inB_pt y ps.length
        rw [hpt] at h61
        have HY := Lib.hid hyk
        clear hx hyk hpt
        cases hq : ptB y ps.length with
        | false =>
          rw [hq] at h61
          have hbad := ofM_bad HY.out hq
          have HB := Lib.hid hbad
          have H6 := Lib.hid h61
          clear hbad h61 hq
          go_wp2_with (go_at_call 61; refine (H6.out _).mono ?_; rintro e w1 ⟨rfl, rfl⟩)
          go_ret2
          refine ⟨_, by rw [HB.out]; rfl, ?_, hb.alloc hb.size _⟩
          rw [HB.out]
          exact own_mono (row_lit0 _) hb.size
        | true =>
          rw [hq] at h61
          have hyy : 0 ≤ y ∧ y < ps.length := of_decide_eq_true hq
          obtain ⟨j, rfl⟩ : ∃ j : Nat, y = (j : Int) := ⟨y.toNat, by omega⟩
          have hj4 : j < 4 := by omega
          have hall : (ps.take (k + 1)).all (fun y => ptB y ps.length) = true := by
            rw [List.take_add_one, HY.out, List.all_append, HA.out]
            simp [hq]
          have htk := ofM_take ps k _ HY.out
          have hpw := pt_wrap j hj4
          have HS := Lib.hid (And.intro hall (And.intro htk hpw))
          have H6 := Lib.hid h61
          have hj0 : (0 : Int) ≤ (j : Int) := by omega
          clear hall htk hpw h61 hq hyy
          go_wp2_with (first | (go_at_call 61; refine (H6.out _).mono ?_; rintro e w1 ⟨rfl, rfl⟩) | (at_builtin; refine wpList_append_own _ rfl (.tmp 28) (.tmp 34) 23 rfl w.heap.size 3 i0 (.int .i64 0) 1 8 Try.underlying23 hi hz0 hz1 hz2 rfl (by decide) _ _ _ rfl (ho.alloc _) ⟨wr.heap.size, 0, none⟩ 1 1 [_] rfl rfl (cell_one_new _ _ _) (by simp [Value.oneCell']) (by unfold maxLen; omega) (by omega) (by have := hb.size; simp; omega) ?_))
          intro v' w1 hown' hgrow _
          have hb' := own_step' ho hb hb.size _ hgrow
          clear ho hb hgrow hc1
          go_wp2
          go_roundw
          case rel =>
            refine ⟨k + 1, by omega, by go_num, HS.out.1, ?_, hb'⟩
            rw [HS.out.2.1, List.map_append]
            have hw := HS.out.2.2
            simp only [Int.toNat_natCast]
            rw [← hw]
            rw [← List.map_take] at hown'
            exact hown'
          case measure => simp [intOf]; omega
      · obtain rfl : k = ps.length := by omega
        have hok : ofMB ps = true := by
          unfold ofMB
          have := HA.out
          rw [List.take_length] at this
          rw [this, decide_eq_true HN.out]
          rfl
        have HO := Lib.hid hok
        clear hok
        go_wp2
        go_ret2
        rw [List.take_of_length_le (by rw [ofM_len]; exact Nat.le_refl _)] at ho
        exact ⟨_, by rw [HO.out]; rfl, by rw [HO.out]; rw [show (ifR true (ofML ps)) = ofML ps from rfl, ofM_len]; exact ho, hb⟩
  · have hin : inB (ps.length : Int) 1 4 = false := decide_eq_false (by omega)
    have h6 := fun W => l6In_any (ps.length : Int) 1 4 W
    rw [hin] at h6
    have hbad : ofMB ps = false := by unfold ofMB; rw [decide_eq_false hn]; rfl
    have H := Lib.hid h6
    have HB := Lib.hid hbad
    clear hin h6 hbad hn
    go_enter Try.func37, Try.ntmps37
    go_wp2_with (go_at_call 61; refine (H.out _).mono ?_; rintro e w1 ⟨rfl, rfl⟩)
    go_ret2
    exact ⟨_, by rw [HB.out]; rfl, by rw [HB.out]; exact row_lit0 w, below_one _ _⟩

set_option maxHeartbeats 4000000 in
theorem implKindOfMap_any (ao : Option Addr) (ca : Nat) (ps : List Int) (w : World) (hl : ps.length ≤ 1048576) (hx : Rd w ao ps) :
    Calls Try.prog 35 #[.slice ao ps.length ca] w (Gave w (ifR (ofMB ps) (ofML ps)) (ofMB ps)) := by
  by_cases hn : 1 ≤ ps.length ∧ ps.length ≤ 4
  · have hin : inB (ps.length : Int) 1 4 = true := decide_eq_true (by omega)
    have h6 := fun W => isCount_any (ps.length : Int) W
    rw [hin] at h6
    have H := Lib.hid h6
    have HN := Lib.hid hn
    obtain ⟨hn1, hn2⟩ := hn
    have z0 : RelAt (w.alloc (.cells #[.int .i64 ps.length, .int .i64 0, .int .i64 0, .int .i64 0, .int .i64 0] 48)) w.heap.size (ofTo ps 0) := by
      have := zero_new w ps.length
      rw [show ofTo ps 0 = List.replicate ps.length 0 by unfold ofTo; simp]
      exact this
    have B0 := below_one w (.cells #[.int .i64 ps.length, .int .i64 0, .int .i64 0, .int .i64 0, .int .i64 0] 48)
    clear hin h6
    go_enter Try.func35, Try.ntmps35
    go_wp2_with (go_at_call 58; refine (H.out _).mono ?_; rintro e w1 ⟨rfl, rfl⟩)
    go_loopw [17, 6, 7, 2, 3] (fun i _ _ _ _ wr => ∃ k : Nat, k ≤ ps.length ∧ i = .int .i64 k ∧ (ps.take k).all (fun y => ptB y ps.length) = true ∧ RelAt wr w.heap.size (ofTo ps k) ∧ Below w.heap.size w wr)
      (fun i _ _ _ _ _ => ps.length - (intOf i).toNat)
    case atStart => exact ⟨0, Nat.zero_le _, rfl, rfl, z0, B0⟩
    case round =>
      clear z0 B0
      obtain ⟨k, hk, rfl, ha, ho, hb⟩ := hrel
      have HA := Lib.hid ha
      clear ha
      by_cases hlt : k < ps.length
      · obtain ⟨b, off, y, hyk, rfl, hbl, hc1⟩ := (hx.below hb).get k hlt
        have hi1 : ((k : Nat) : Int) < (ps.length : Int) := by omega
        have h61 := fun W => isPoint_any y ps.length W
        have HY := Lib.hid hyk
        clear hx hyk
        cases hq : ptB y ps.length with
        | false =>
          rw [hq] at h61
          have hbad := ofM_bad HY.out hq
          have HB := Lib.hid hbad
          have H6 := Lib.hid h61
          clear hbad h61 hq
          go_wp2_with (go_at_call 75; refine (H6.out _).mono ?_; rintro e w1 ⟨rfl, rfl⟩)
          go_ret2
          refine ⟨.slice none 0 0, by rw [HB.out]; rfl, ?_, hb⟩
          rw [HB.out]
          exact World.ownsRow_nil _ _ _ _
        | true =>
          rw [hq] at h61
          have hyy : 0 ≤ y ∧ y < ps.length := of_decide_eq_true hq
          obtain ⟨j, rfl⟩ : ∃ j : Nat, y = (j : Int) := ⟨y.toNat, by omega⟩
          have hj4 : j < 4 := by omega
          have hall : (ps.take (k + 1)).all (fun y => ptB y ps.length) = true := by
            rw [List.take_add_one, HY.out, List.all_append, HA.out]
            simp [hq]
          have hln := ofTo_len ps k hk
          have hst := ofTo_step ps k j HY.out hj4
          obtain ⟨Z, hZ⟩ : ∃ Z, ofTo ps k = Z := ⟨_, rfl⟩
          rw [hZ] at ho hst hln
          have hwp := fun W => withPair_any Z k j W (by omega) (by omega) hj4
          have HS := Lib.hid (And.intro hall (And.intro hst (And.intro hwp hln)))
          have H6 := Lib.hid h61
          have p0 := ho.cell0
          have p1 := ho.cell1
          have p2 := ho.cell2
          have p3 := ho.cell3
          have p4 := ho.cell4
          clear hall hst hwp hln h61 hq hyy hZ
          go_wp2_with (first | (go_at_call 75; refine (H6.out _).mono ?_; rintro e w1 ⟨rfl, rfl⟩))
          refine (HS.out.2.2.1 _).mono ?_
          rintro e w2 ⟨rfl, hb2⟩
          have r2 := ho.below hb2 ho.lt
          have B2 := hb.trans (hb2.mono hb.size)
          have q0 := r2.cell0
          have q1 := r2.cell1
          have q2 := r2.cell2
          have q3 := r2.cell3
          have q4 := r2.cell4
          have f0 := r2.free 0
          have f1 := r2.free 1
          have f2 := r2.free 2
          have f3 := r2.free 3
          have f4 := r2.free 4
          have hput := r2.put (addPair Z k j)
          have HPT := Lib.hid hput
          have bb := fun (W : World) (t : Nat) (v : Value) (h : Below w.heap.size w W) => h.setCell (p := ⟨w.heap.size, t, none⟩) (Nat.le_refl _) v
          clear hput p0 p1 p2 p3 p4 ho hb hb2
          go_wp2
          go_roundw
          case rel => exact ⟨k + 1, by omega, by go_num, HS.out.1, by rw [← HS.out.2.1]; exact HPT.out, bb _ _ _ (bb _ _ _ (bb _ _ _ (bb _ _ _ (bb _ _ _ B2))))⟩
          case measure => simp [intOf]; omega
      · obtain rfl : k = ps.length := by omega
        have hok : ofMB ps = true := by
          unfold ofMB
          have := HA.out
          rw [List.take_length] at this
          rw [this, decide_eq_true HN.out]
          rfl
        rw [ofTo_all] at ho
        have hln := ofM_len ps
        have HO := Lib.hid (And.intro hok hln)
        have p0 := ho.cell0
        have p1 := ho.cell1
        have p2 := ho.cell2
        have p3 := ho.cell3
        have p4 := ho.cell4
        clear hok hln
        go_wp2_with fail
        refine (list_any (ofML ps) wr (by rw [HO.out.2]; exact hn2)).mono ?_
        rintro e w4 ⟨v, rfl, hv, hb4⟩
        go_wp2
        go_ret2
        refine ⟨v, by rw [HO.out.1]; rfl, ?_, hb.trans (hb4.mono hb.size)⟩
        rw [HO.out.1]
        exact own_mono hv hb.size
  · have hin : inB (ps.length : Int) 1 4 = false := decide_eq_false (by omega)
    have h6 := fun W => isCount_any (ps.length : Int) W
    rw [hin] at h6
    have hbad : ofMB ps = false := by unfold ofMB; rw [decide_eq_false hn]; rfl
    have H := Lib.hid h6
    have HB := Lib.hid hbad
    clear hin h6 hbad hn
    go_enter Try.func35, Try.ntmps35
    go_wp2_with (go_at_call 58; refine (H.out _).mono ?_; rintro e w1 ⟨rfl, rfl⟩)
    go_ret2
    exact ⟨.slice none 0 0, by rw [HB.out]; rfl, by rw [HB.out]; exact World.ownsRow_nil _ _ _ _, Below.refl _ _⟩
end Go.Proofs.Ytpbkgdohfnjjpaa
