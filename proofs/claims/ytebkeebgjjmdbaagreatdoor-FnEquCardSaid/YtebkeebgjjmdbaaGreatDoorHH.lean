/-
  Whether a relation is of the kinds of a text: the program's passes and isOf, the model's l3All; KindIn of both.
-/
import Derived.Test.YtebkeebgjjmdbaaGreatDoorHF
import Derived.Test.YtebkeebgjjmdbaaGreatDoorHG
namespace Go.Proofs.YtebkeebgjjmdbaaGreatDoor
open Go.RowKit Go.Maps

/-- the first k of some tests -/
def allTo (f : Nat → Bool) (k : Nat) : Bool := (List.range k).all f
theorem allTo_succ (f : Nat → Bool) (k : Nat) : allTo f (k + 1) = (allTo f k && f k) := by
  unfold allTo
  rw [List.range_succ, List.all_append]
  simp
theorem allTo_no (f : Nat → Bool) (k n : Nat) (hk : k < n) (h : f k = false) : allTo f n = false := by
  unfold allTo
  rw [List.all_eq_false]
  exact ⟨k, List.mem_range.2 hk, by simp [h]⟩
theorem allTo_congr {f g : Nat → Bool} {n : Nat} (h : ∀ k, k < n → f k = g k) : allTo f n = allTo g n := by
  unfold allTo
  rw [Bool.eq_iff_iff, List.all_eq_true, List.all_eq_true]
  exact ⟨fun e x hx => by rw [← h x (List.mem_range.1 hx)]; exact e x hx, fun e x hx => by rw [h x (List.mem_range.1 hx)]; exact e x hx⟩
/-- whether a relation is of all kinds of a text -/
def allK (xs : List Int) (st : ByteArray) : Bool := allTo (fun i => kindB (byt st i) xs) st.size

set_option maxHeartbeats 4000000 in
theorem passes_any {xs : List Int} (R : Rl xs.length xs) (ao : Option Addr) (cap : Nat) (vs : List Value) (fs : Nat → List Int → Bool) (w : World) (hl : vs.length ≤ 1048576) (hv : RdV w ao vs) (hA : ∀ (k : Nat) v, vs[k]? = some v → AsksV w v (fs k)) :
    Calls Tryz.prog 72 #[relOf xs, .slice ao vs.length cap] w fun e w' => e = .returned (.bool (allTo (fun k => fs k xs) vs.length)) ∧ Below w.heap.size w w' := by
  have x0 := RelAt.new w xs
  have B0 := below_one w (.cells #[.int .i64 xs.length, .int .i64 (rowAt xs 0), .int .i64 (rowAt xs 1), .int .i64 (rowAt xs 2), .int .i64 (rowAt xs 3)] 36)
  have H := Lib.hid (And.intro hv hA)
  have HR := Lib.hid R
  clear hv hA R
  go_enter Tryz.func72, Tryz.ntmps72
  go_wp2
  go_loopw [9, 6, 4] (fun i _ _ wr => ∃ k : Nat, k ≤ vs.length ∧ i = .int .i64 k ∧ allTo (fun k => fs k xs) k = true ∧ RelAt wr w.heap.size xs ∧ Below w.heap.size w wr)
    (fun i _ _ _ => vs.length - (intOf i).toNat)
  case atStart => exact ⟨0, Nat.zero_le _, rfl, rfl, x0, B0⟩
  case round =>
    clear x0 B0
    obtain ⟨k, hk, rfl, ha, hr, hB⟩ := hrel
    have HA := Lib.hid ha
    clear ha
    by_cases hlt : k < vs.length
    · obtain ⟨b, off, rfl, hbl, hc⟩ := (H.out.1.below hB).get k hlt
      obtain ⟨g, caps, hvk, hcf, hC⟩ := H.out.2 k _ (List.getElem?_eq_getElem hlt)
      rw [hvk] at hc
      have hC1 := hC xs wr HR.out hB
      have hi1 : ((k : Nat) : Int) < (vs.length : Int) := by omega
      have hs := allTo_succ (fun k => fs k xs) k
      rw [HA.out, Bool.true_and] at hs
      have p0 := hr.cell0
      have p1 := hr.cell1
      have p2 := hr.cell2
      have p3 := hr.cell3
      have p4 := hr.cell4
      have hx : xs.length ≤ 4 := HR.out.four
      cases hf : fs k xs with
      | true =>
        rw [hf] at hC1 hs
        have HC := Lib.hid hC1
        have HS := Lib.hid hs
        clear hC1 hs hf hC hvk
        go_wp2_with (refine HC.out.mono ?_; rintro e w2 ⟨rfl, hb2⟩)
        have hr2 := hr.below hb2 hr.lt
        have hB2 := hB.trans (hb2.mono hB.size)
        clear hb2 hr hB
        go_roundw
        case rel => exact ⟨k + 1, by omega, by go_num, HS.out, hr2, hB2⟩
        case measure => simp [intOf]; omega
      | false =>
        have hno := allTo_no (fun k => fs k xs) k vs.length hlt hf
        rw [hf] at hC1
        have HC := Lib.hid hC1
        have HN := Lib.hid hno
        clear hC1 hs hf hC hvk hno
        go_wp2_with (refine HC.out.mono ?_; rintro e w2 ⟨rfl, hb2⟩)
        go_ret
        exact ⟨by rw [HN.out]; rfl, hB.trans (hb2.mono hB.size)⟩
    · obtain rfl : k = vs.length := by omega
      go_wp2
      go_ret
      exact ⟨by rw [HA.out]; rfl, hB⟩

theorem letters_of {st lt : ByteArray} (h : textTo st lt st.size = true) (k : Nat) (hk : k < st.size) : hasTo lt (byt st k) lt.size = true := by
  cases hh : letB st lt k with
  | true =>
    unfold letB at hh
    rw [Bool.and_eq_true] at hh
    exact hh.1
  | false =>
    rw [textTo_no st lt k st.size hk hh] at h
    cases h
theorem toldL_get {st lt : ByteArray} {F : Nat → Value} (h : textTo st lt st.size = true) {k : Nat} {v : Value} (hv : (toldL st lt F)[k]? = some v) : k < st.size ∧ v = F (byt st k) := by
  unfold toldL at hv
  rw [h, if_pos rfl] at hv
  rw [List.getElem?_map] at hv
  by_cases hk : k < st.size
  · rw [List.getElem?_range hk] at hv
    exact ⟨hk, (Option.some.inj hv).symm⟩
  · rw [List.getElem?_eq_none (by simp; omega)] at hv
    cases hv
theorem toldL_len {st lt : ByteArray} {F : Nat → Value} (h : textTo st lt st.size = true) : (toldL st lt F).length = st.size := by
  unfold toldL
  rw [h, if_pos rfl]
  simp
theorem toldL_no {st lt : ByteArray} {F : Nat → Value} (h : textTo st lt st.size = false) : toldL st lt F = [] := by
  unfold toldL
  rw [h]
  rfl

set_option maxHeartbeats 4000000 in
theorem isOf_any {xs : List Int} (R : Rl xs.length xs) (st : ByteArray) (w : World) (hl : st.size ≤ 1048576) :
    Calls Tryz.prog 53 #[relOf xs, .string st] w fun e w' => e = .returned (.bool (textTo st risat st.size && allK xs st)) ∧ Below w.heap.size w w' := by
  have x0 := RelAt.new w xs
  have B0 := below_one w (.cells #[.int .i64 xs.length, .int .i64 (rowAt xs 0), .int .i64 (rowAt xs 1), .int .i64 (rowAt xs 2), .int .i64 (rowAt xs 3)] 36)
  have HR := Lib.hid R
  clear R
  go_enter Tryz.func53, Tryz.ntmps53
  go_wp2_with fail
  refine (kindTests_any _).mono ?_
  rintro e w1 ⟨b, F, rfl, hbb, hF, hA, hb1⟩
  have x1 := x0.below hb1 x0.lt
  have B1 := B0.trans (hb1.mono B0.size)
  have HA := Lib.hid hA
  have HF := Lib.hid hF
  clear hA hF hb1 x0 B0
  go_wp2_with fail
  refine (toldTests_any st risat b F w1 hl HF.out (fun c hc => by obtain ⟨g, caps, e, _⟩ := HA.out c hc; exact ⟨g, caps, e⟩)).mono ?_
  rintro e w2 ⟨v, rfl, ho, hb2⟩
  have x2 := x1.below hb2 x1.lt
  have B2 := B1.trans (hb2.mono B1.size)
  obtain ⟨ao, cap, rfl, hv⟩ := rdV_of_row ho
  clear x1 B1 ho
  cases ht : textTo st risat st.size with
  | false =>
    have HT := Lib.hid ht
    clear hb2 HA HF hv ht
    go_wp2
    go_ret
    exact ⟨by rw [HT.out]; rfl, B2⟩
  | true =>
    have hp := passes_any HR.out ao cap (toldL st risat F) (fun k => kindB (byt st k)) w2 (by rw [toldL_len ht]; exact hl) hv (fun k u hu => by
      obtain ⟨h1, rfl⟩ := toldL_get ht hu
      exact (HA.out _ (letters_of ht k h1)).below hb2)
    have hx : xs.length ≤ 4 := HR.out.four
    rw [toldL_len ht] at hp
    have HP := Lib.hid hp
    have HT := Lib.hid ht
    have hlt : (toldL st risat F).length = st.size := toldL_len ht
    rw [hlt]
    have p0 := x2.cell0
    have p1 := x2.cell1
    have p2 := x2.cell2
    have p3 := x2.cell3
    have p4 := x2.cell4
    clear hp ht hv hb2 HA HF hlt
    go_wp2_with (refine HP.out.mono ?_; rintro e w3 ⟨rfl, hb3⟩)
    go_ret
    exact ⟨by rw [HT.out]; rfl, B2.trans (hb3.mono B2.size)⟩

/-! KindIn -/
def kindInB (xs : List Int) (st : ByteArray) : Bool := relIn xs && textTo st risat st.size && allK xs st
set_option maxHeartbeats 4000000 in
theorem l3All_any {xs : List Int} (R : Rl xs.length xs) (st : ByteArray) (ao : Option Addr) (ca : Nat) (w : World) (hl : st.size ≤ 1048576) (hs : ∀ k, k < st.size → hasTo risat (byt st k) risat.size = true) (hx : Rd w ao xs) :
    Calls Tryz.prog 17 #[.slice ao xs.length ca, .string st] w fun e w' => e = .returned (.bool (allK xs st)) ∧ Below w.heap.size w w' := by
  have H := Lib.hid (And.intro R hs)
  clear R hs
  go_enter Tryz.func17, Tryz.ntmps17
  go_wp2
  go_loopw [5, 4] (fun i _ wr => ∃ k : Nat, k ≤ st.size ∧ i = .int .i64 k ∧ allTo (fun i => kindB (byt st i) xs) k = true ∧ Below w.heap.size w wr)
    (fun i _ _ => st.size - (intOf i).toNat)
  case atStart => exact ⟨0, Nat.zero_le _, rfl, rfl, Below.refl _ _⟩
  case round =>
    obtain ⟨k, hk, rfl, ha, hB⟩ := hrel
    have HA := Lib.hid ha
    clear ha
    by_cases hlt : k < st.size
    · have hb := byt_at st k hlt
      obtain ⟨x, hx2⟩ : ∃ x, byt st k = x := ⟨_, rfl⟩
      have hin := H.out.2 k hlt
      rw [hx2] at hb hin
      have hc := l3Kind_any H.out.1 x (risat_in hin) ao ca wr (hx.below hB)
      have hs := allTo_succ (fun i => kindB (byt st i) xs) k
      rw [HA.out, Bool.true_and] at hs
      have hs2 : allTo (fun i => kindB (byt st i) xs) (k + 1) = kindB x xs := by rw [hs, hx2]
      cases hf : kindB x xs with
      | true =>
        rw [hf] at hc hs2
        have HC := Lib.hid hc
        have HS := Lib.hid hs2
        clear hc hs hs2 hf hin hx2 hx
        go_wp2_with (refine HC.out.mono ?_; rintro e w2 ⟨rfl, hb2⟩)
        go_roundw
        case rel => exact ⟨k + 1, by omega, by go_num, HS.out, hB.trans (hb2.mono hB.size)⟩
        case measure => simp [intOf]; omega
      | false =>
        have hno : allK xs st = false := allTo_no (fun i => kindB (byt st i) xs) k st.size hlt (by rw [hx2]; exact hf)
        rw [hf] at hc
        have HC := Lib.hid hc
        have HN := Lib.hid hno
        clear hc hs hs2 hf hin hx2 hx hno
        go_wp2_with (refine HC.out.mono ?_; rintro e w2 ⟨rfl, hb2⟩)
        go_ret
        exact ⟨by rw [HN.out]; rfl, hB.trans (hb2.mono hB.size)⟩
    · obtain rfl : k = st.size := by omega
      go_wp2
      go_ret
      exact ⟨by rw [show allK xs st = true from HA.out]; rfl, hB⟩

end Go.Proofs.YtebkeebgjjmdbaaGreatDoor
