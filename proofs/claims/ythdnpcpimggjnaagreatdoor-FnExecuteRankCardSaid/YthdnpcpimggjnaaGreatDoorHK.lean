/-
  All kinds of a relation: KindAll of both.
-/
import Derived.Test.YthdnpcpimggjnaaGreatDoorHG
namespace Go.Proofs.YthdnpcpimggjnaaGreatDoor
open Go.RowKit Go.Maps

/-- the first k of some tests -/
def allTo (f : Nat → Bool) (k : Nat) : Bool := (List.range k).all f
theorem allTo_succ (f : Nat → Bool) (k : Nat) : allTo f (k + 1) = (allTo f k && f k) := by
  unfold allTo
  rw [List.range_succ, List.all_append]
  simp
theorem allTo_no (f : Nat → Bool) (k n : Nat) (hk : k < n) (h : f k = false) : allTo f n = false := by
  unfold allTo
  rw [List.all_eq_false]
  exact ⟨k, List.mem_range.2 hk, by simp [h]⟩
theorem allTo_congr {f g : Nat → Bool} {n : Nat} (h : ∀ k, k < n → f k = g k) : allTo f n = allTo g n := by
  unfold allTo
  rw [Bool.eq_iff_iff, List.all_eq_true, List.all_eq_true]
  exact ⟨fun e x hx => by rw [← h x (List.mem_range.1 hx)]; exact e x hx, fun e x hx => by rw [h x (List.mem_range.1 hx)]; exact e x hx⟩
/-- whether a relation is of all kinds of a text -/
def allK (xs : List Int) (st : ByteArray) : Bool := allTo (fun i => kindB (byt st i) xs) st.size

set_option maxHeartbeats 4000000 in
theorem passes_any {xs : List Int} (R : Rl xs.length xs) (ao : Option Addr) (cap : Nat) (vs : List Value) (fs : Nat → List Int → Bool) (w : World) (hl : vs.length ≤ 1048576) (hv : RdV w ao vs) (hA : ∀ (k : Nat) v, vs[k]? = some v → AsksV w v (fs k)) :
    Calls Tryz.prog 311 #[relOf xs, .slice ao vs.length cap] w fun e w' => e = .returned (.bool (allTo (fun k => fs k xs) vs.length)) ∧ Below w.heap.size w w' := by
  have x0 := RelAt.new w xs
  have B0 := below_one w (.cells #[.int .i64 xs.length, .int .i64 (rowAt xs 0), .int .i64 (rowAt xs 1), .int .i64 (rowAt xs 2), .int .i64 (rowAt xs 3)] 36)
  have H := Lib.hid (And.intro hv hA)
  have HR := Lib.hid R
  clear hv hA R
  go_enter Tryz.func311, Tryz.ntmps311
  go_wp2
  go_loopw [9, 6, 4] (fun i _ _ wr => ∃ k : Nat, k ≤ vs.length ∧ i = .int .i64 k ∧ allTo (fun k => fs k xs) k = true ∧ RelAt wr w.heap.size xs ∧ Below w.heap.size w wr)
    (fun i _ _ _ => vs.length - (intOf i).toNat)
  case atStart => exact ⟨0, Nat.zero_le _, rfl, rfl, x0, B0⟩
  case round =>
    clear x0 B0
    obtain ⟨k, hk, rfl, ha, hr, hB⟩ := hrel
    have HA := Lib.hid ha
    clear ha
    by_cases hlt : k < vs.length
    · obtain ⟨b, off, rfl, hbl, hc⟩ := (H.out.1.below hB).get k hlt
      obtain ⟨g, caps, hvk, hcf, hC⟩ := H.out.2 k _ (List.getElem?_eq_getElem hlt)
      rw [hvk] at hc
      have hC1 := hC xs wr HR.out hB
      have hi1 : ((k : Nat) : Int) < (vs.length : Int) := by omega
      have hs := allTo_succ (fun k => fs k xs) k
      rw [HA.out, Bool.true_and] at hs
      have p0 := hr.cell0
      have p1 := hr.cell1
      have p2 := hr.cell2
      have p3 := hr.cell3
      have p4 := hr.cell4
      have hx : xs.length ≤ 4 := HR.out.four
      cases hf : fs k xs with
      | true =>
        rw [hf] at hC1 hs
        have HC := Lib.hid hC1
        have HS := Lib.hid hs
        clear hC1 hs hf hC hvk
        go_wp2_with (refine HC.out.mono ?_; rintro e w2 ⟨rfl, hb2⟩)
        have hr2 := hr.below hb2 hr.lt
        have hB2 := hB.trans (hb2.mono hB.size)
        clear hb2 hr hB
        go_roundw
        case rel => exact ⟨k + 1, by omega, by go_num, HS.out, hr2, hB2⟩
        case measure => simp [intOf]; omega
      | false =>
        have hno := allTo_no (fun k => fs k xs) k vs.length hlt hf
        rw [hf] at hC1
        have HC := Lib.hid hC1
        have HN := Lib.hid hno
        clear hC1 hs hf hC hvk hno
        go_wp2_with (refine HC.out.mono ?_; rintro e w2 ⟨rfl, hb2⟩)
        go_ret
        exact ⟨by rw [HN.out]; rfl, hB.trans (hb2.mono hB.size)⟩
    · obtain rfl : k = vs.length := by omega
      go_wp2
      go_ret
      exact ⟨by rw [HA.out]; rfl, hB⟩

theorem letters_of {st lt : ByteArray} (h : textTo st lt st.size = true) (k : Nat) (hk : k < st.size) : hasTo lt (byt st k) lt.size = true := by
  cases hh : letB st lt k with
  | true =>
    unfold letB at hh
    rw [Bool.and_eq_true] at hh
    exact hh.1
  | false =>
    rw [textTo_no st lt k st.size hk hh] at h
    cases h
theorem toldL_get {st lt : ByteArray} {F : Nat → Value} (h : textTo st lt st.size = true) {k : Nat} {v : Value} (hv : (toldL st lt F)[k]? = some v) : k < st.size ∧ v = F (byt st k) := by
  unfold toldL at hv
  rw [h, if_pos rfl] at hv
  rw [List.getElem?_map] at hv
  by_cases hk : k < st.size
  · rw [List.getElem?_range hk] at hv
    exact ⟨hk, (Option.some.inj hv).symm⟩
  · rw [List.getElem?_eq_none (by simp; omega)] at hv
    cases hv
theorem toldL_len {st lt : ByteArray} {F : Nat → Value} (h : textTo st lt st.size = true) : (toldL st lt F).length = st.size := by
  unfold toldL
  rw [h, if_pos rfl]
  simp
theorem toldL_no {st lt : ByteArray} {F : Nat → Value} (h : textTo st lt st.size = false) : toldL st lt F = [] := by
  unfold toldL
  rw [h]
  rfl

set_option maxHeartbeats 4000000 in
theorem isOf_any {xs : List Int} (R : Rl xs.length xs) (st : ByteArray) (w : World) (hl : st.size ≤ 1048576) :
    Calls Tryz.prog 282 #[relOf xs, .string st] w fun e w' => e = .returned (.bool (textTo st risat st.size && allK xs st)) ∧ Below w.heap.size w w' := by
  have x0 := RelAt.new w xs
  have B0 := below_one w (.cells #[.int .i64 xs.length, .int .i64 (rowAt xs 0), .int .i64 (rowAt xs 1), .int .i64 (rowAt xs 2), .int .i64 (rowAt xs 3)] 36)
  have HR := Lib.hid R
  clear R
  go_enter Tryz.func282, Tryz.ntmps282
  go_wp2_with fail
  refine (kindTests_any _).mono ?_
  rintro e w1 ⟨b, F, rfl, hbb, hF, hA, hb1⟩
  have x1 := x0.below hb1 x0.lt
  have B1 := B0.trans (hb1.mono B0.size)
  have HA := Lib.hid hA
  have HF := Lib.hid hF
  clear hA hF hb1 x0 B0
  go_wp2_with fail
  refine (toldTests_any st risat b F w1 hl HF.out (fun c hc => by obtain ⟨g, caps, e, _⟩ := HA.out c hc; exact ⟨g, caps, e⟩)).mono ?_
  rintro e w2 ⟨v, rfl, ho, hb2⟩
  have x2 := x1.below hb2 x1.lt
  have B2 := B1.trans (hb2.mono B1.size)
  obtain ⟨ao, cap, rfl, hv⟩ := rdV_of_row ho
  clear x1 B1 ho
  cases ht : textTo st risat st.size with
  | false =>
    have HT := Lib.hid ht
    clear hb2 HA HF hv ht
    go_wp2
    go_ret
    exact ⟨by rw [HT.out]; rfl, B2⟩
  | true =>
    have hp := passes_any HR.out ao cap (toldL st risat F) (fun k => kindB (byt st k)) w2 (by rw [toldL_len ht]; exact hl) hv (fun k u hu => by
      obtain ⟨h1, rfl⟩ := toldL_get ht hu
      exact (HA.out _ (letters_of ht k h1)).below hb2)
    have hx : xs.length ≤ 4 := HR.out.four
    rw [toldL_len ht] at hp
    have HP := Lib.hid hp
    have HT := Lib.hid ht
    have hlt : (toldL st risat F).length = st.size := toldL_len ht
    rw [hlt]
    have p0 := x2.cell0
    have p1 := x2.cell1
    have p2 := x2.cell2
    have p3 := x2.cell3
    have p4 := x2.cell4
    clear hp ht hv hb2 HA HF hlt
    go_wp2_with (refine HP.out.mono ?_; rintro e w3 ⟨rfl, hb3⟩)
    go_ret
    exact ⟨by rw [HT.out]; rfl, B2.trans (hb3.mono B2.size)⟩

/-! KindIn -/
def kindInB (xs : List Int) (st : ByteArray) : Bool := relIn xs && textTo st risat st.size && allK xs st
theorem l3Letters_any (w : World) : Calls Tryz.prog 19 #[] w fun e w' => e = .returned (.string risat) ∧ w = w' := by
  go_enter Tryz.func19, Tryz.ntmps19
  go_wp2
  go_ret
  exact ⟨rfl, rfl⟩
end Go.Proofs.YthdnpcpimggjnaaGreatDoor

namespace Go.Proofs.YthdnpcpimggjnaaGreatDoor
open Go.RowKit Go.Maps

/-- the letters at those places that pass -/
def pickL (f : Nat → Bool) (k : Nat) : List UInt8 := ((List.range k).filter f).map fun i => risat.data.toList.getD i 0
theorem pick_yes (f : Nat → Bool) (k : Nat) (h : f k = true) : pickL f (k + 1) = pickL f k ++ [risat.data.toList.getD k 0] := by
  unfold pickL
  rw [List.range_succ, List.filter_append]
  simp [h]
theorem pick_no (f : Nat → Bool) (k : Nat) (h : f k = false) : pickL f (k + 1) = pickL f k := by
  unfold pickL
  rw [List.range_succ, List.filter_append]
  simp [h]
theorem pick_len (f : Nat → Bool) (k : Nat) : (pickL f k).length ≤ k := by
  unfold pickL
  rw [List.length_map]
  have := List.length_filter_le f (List.range k)
  rw [List.length_range] at this
  exact this
def strOf (l : List UInt8) : ByteArray := ⟨l.toArray⟩
theorem str_one (l : List UInt8) (c : UInt8) : strOf l ++ ⟨#[c]⟩ = strOf (l ++ [c]) := by
  apply ByteArray.ext
  simp [strOf]
theorem str_cut (l : List UInt8) (i : Nat) (hi : i < 10) : strOf l ++ risat.extract i (i + 1) = strOf (l ++ [risat.data.toList.getD i 0]) := by
  rw [← str_one]
  congr 1
  rcases (by omega : i = 0 ∨ i = 1 ∨ i = 2 ∨ i = 3 ∨ i = 4 ∨ i = 5 ∨ i = 6 ∨ i = 7 ∨ i = 8 ∨ i = 9) with rfl | rfl | rfl | rfl | rfl | rfl | rfl | rfl | rfl | rfl <;> rfl
theorem str_fold (l : List UInt8) : ∀ acc : List UInt8, (l.map fun c => (c.toNat : Int)).foldl (fun r n => r.push (UInt8.ofNat n.toNat)) (strOf acc) = strOf (acc ++ l) := by
  induction l with
  | nil => intro acc; simp
  | cons c l ih =>
    intro acc
    rw [List.map_cons, List.foldl_cons]
    have e : (strOf acc).push (UInt8.ofNat (c.toNat : Int).toNat) = strOf (acc ++ [c]) := by
      apply ByteArray.ext
      simp [strOf]
    rw [e, ih]
    simp
theorem str_size (l : List UInt8) : (strOf l).size = l.length := by
  unfold strOf
  simp [ByteArray.size]
def kindsOf (xs : List Int) : ByteArray := if relIn xs then strOf (pickL (fun i => kindB (byt risat i) xs) 10) else ByteArray.empty

theorem risat_at (i : Nat) (h : i < 10) : hasTo risat (byt risat i) risat.size = true := by
  rcases (by omega : i = 0 ∨ i = 1 ∨ i = 2 ∨ i = 3 ∨ i = 4 ∨ i = 5 ∨ i = 6 ∨ i = 7 ∨ i = 8 ∨ i = 9) with rfl | rfl | rfl | rfl | rfl | rfl | rfl | rfl | rfl | rfl <;> decide +kernel

set_option maxHeartbeats 4000000 in
theorem specKindAll_any (ao : Option Addr) (ca : Nat) (xs : List Int) (w : World) (hl : xs.length ≤ 1048576) (hx : Rd w ao xs) :
    Calls Tryz.prog 7 #[.slice ao xs.length ca] w fun e w' => e = .returned (.tuple #[.string (kindsOf xs), .bool (relIn xs)]) ∧ Below w.heap.size w w' := by
  have h1 := specRelIn_any ao ca xs w hl hx
  unfold kindsOf
  cases hp : relIn xs with
  | false =>
    rw [hp] at h1
    have H1 := Lib.hid h1
    clear h1 hp
    go_enter Tryz.func7, Tryz.ntmps7
    go_wp2_with (go_at_call 18; refine H1.out.mono ?_; rintro e w1 ⟨rfl, hd⟩)
    go_ret2
    exact ⟨rfl, hd.below _⟩
  | true =>
    rw [hp] at h1
    have H1 := Lib.hid h1
    have HP := Lib.hid hp
    clear h1 hp
    go_enter Tryz.func7, Tryz.ntmps7
    go_wp2_with fail
    refine H1.out.mono ?_
    rintro e w1 ⟨rfl, hd⟩
    have hx1 := hd.rd hx
    have B1 := hd.below w.heap.size
    clear hd
    go_wp2_with fail
    refine (l3Letters_any w1).mono ?_
    rintro e w2 ⟨rfl, rfl⟩
    have HX := Lib.hid hx
    obtain ⟨lt, hlt⟩ : ∃ lt, risat = lt := ⟨_, rfl⟩
    have HL := Lib.hid hlt
    have hs10 : lt.size = 10 := by rw [← hlt]; rfl
    rw [hlt]
    clear hlt hx hx1
    go_wp2
    go_loopw [6, 4] (fun i t wr => ∃ k : Nat, k ≤ 10 ∧ i = .int .i64 k ∧ t = .string (strOf (pickL (fun i => kindB (byt risat i) xs) k)) ∧ Below w.heap.size w wr)
      (fun i _ _ => 10 - (intOf i).toNat)
    case atStart => exact ⟨0, Nat.zero_le _, rfl, rfl, B1⟩
    case round =>
      clear B1
      obtain ⟨k, hk, rfl, rfl, hB⟩ := hrel
      by_cases hlt : k < 10
      · have hb := byt_at lt k (by rw [hs10]; exact hlt)
        obtain ⟨x, hx2⟩ : ∃ x, byt lt k = x := ⟨_, rfl⟩
        rw [hx2] at hb
        have hx3 : byt risat k = x := by rw [HL.out]; exact hx2
        have hin := risat_at k hlt
        rw [hx3] at hin
        have hc := l3Kind_any (Rl.of HP.out) x (risat_in hin) ao ca wr (HX.out.below hB)
        have hcut := str_cut (pickL (fun i => kindB (byt risat i) xs) k) k hlt
        rw [HL.out] at hcut
        have hpl := pick_len (fun i => kindB (byt risat i) xs) k
        rw [← HL.out] at hcut
        have hi1 : ((k : Nat) : Int) < 10 := by omega
        have hsz : ¬ 9223372036854775807 < (strOf (pickL (fun i => kindB (byt risat i) xs) k)).size + (min (k + 1) 10 - k) := by rw [str_size]; omega
        cases hf : kindB x xs with
        | true =>
          rw [hf] at hc
          have hs := pick_yes (fun i => kindB (byt risat i) xs) k (by rw [hx3]; exact hf)
          have HC := Lib.hid hc
          have HS := Lib.hid (And.intro hs hcut)
          clear hc hs hf hin hx2 hx3 hcut
          go_wp2_with (refine HC.out.mono ?_; rintro e w2 ⟨rfl, hb2⟩)
          go_roundw
          case rel => exact ⟨k + 1, by omega, by go_num, by rw [HS.out.1, ← HS.out.2, HL.out], hB.trans (hb2.mono hB.size)⟩
          case measure => simp [intOf]; omega
        | false =>
          rw [hf] at hc
          have hs := pick_no (fun i => kindB (byt risat i) xs) k (by rw [hx3]; exact hf)
          have HC := Lib.hid hc
          have HS := Lib.hid hs
          clear hc hs hf hin hx2 hx3 hcut
          go_wp2_with (refine HC.out.mono ?_; rintro e w2 ⟨rfl, hb2⟩)
          go_roundw
          case rel => exact ⟨k + 1, by omega, by go_num, by rw [HS.out], hB.trans (hb2.mono hB.size)⟩
          case measure => simp [intOf]; omega
      · obtain rfl : k = 10 := by omega
        go_wp2
        go_ret2
        exact ⟨rfl, hB⟩

/-! the program's -/
theorem Tryz.info5 : (Tryz.prog.info? 5).map (fun i => (i.zero, i.size, i.bytes)) = some (some (.int .u8 0), 1, 1) := by kernel_rfl
def u8V (l : List UInt8) : List Value := l.map fun c => Value.int .u8 (c.toNat : Int)
theorem own_cells {w : World} {base : Nat} {e : TypeId} {g cap n : Nat} {vs : List Value} (h : w.ownsRow base e 1 (.slice (some ⟨g, 0, none⟩) n cap) n vs) (j : Nat) (v : Value) (hj : vs[j]? = some v) : w.cell? ((⟨g, 0, none⟩ : Addr).add j) = some v := by
  have hl : vs.length = n := by have := h.1; omega
  have hk : j < vs.length := (List.getElem?_eq_some_iff.1 hj).1
  have hc := h.cellAt j (by omega)
  rw [hj] at hc
  have hadd : (⟨g, 0, none⟩ : Addr).add j = ⟨g, j, none⟩ := by unfold Addr.add; split <;> simp_all
  rw [hadd]
  exact hc
set_option maxRecDepth 100000 in
/-- bytes of the call's own, as a string -/
theorem run_own_string {w : World} {base : Nat} {e : TypeId} {v : Value} {l : List UInt8} (h : w.ownsRow base e 1 v l.length (u8V l)) : Sem.run Tryz.prog (convert 22 9 v) w = .ok (.string (strOf l)) w := by
  rcases h.2 with ⟨rfl, h3⟩ | ⟨g, cap, cur, rfl, _⟩
  · have : l = [] := List.eq_nil_of_length_eq_zero h3
    subst this
    rfl
  · rw [run_convert_bytes_string w _ _ _ _ _ _ Tryz.underlying22 Tryz.underlying5 Tryz.underlying9]
    have hr := run_bytesToString (P := Tryz.prog) w ⟨g, 0, none⟩ l.length cap (l.map fun c => (c.toNat : Int)) (by
      have := run_loadCells_list (P := Tryz.prog) (w := w) ⟨g, 0, none⟩ (u8V l) (fun j v hj => own_cells h j v hj)
      rw [show (u8V l).length = l.length by unfold u8V; simp] at this
      rw [this]
      unfold u8V
      simp)
    rw [hr]
    have := str_fold l []
    rw [List.nil_append] at this
    rw [← this]
    rfl

set_option maxRecDepth 100000 in
set_option maxHeartbeats 8000000 in
theorem implKindAll_any (ao : Option Addr) (ca : Nat) (xs : List Int) (w : World) (hl : xs.length ≤ 1048576) (hx : Rd w ao xs) :
    Calls Tryz.prog 6 #[.slice ao xs.length ca] w fun e w' => e = .returned (.tuple #[.string (kindsOf xs), .bool (relIn xs)]) ∧ Below w.heap.size w w' := by
  unfold kindsOf
  cases hp : relIn xs with
  | false =>
    have HP := Lib.hid hp
    clear hp
    go_enter Tryz.func6, Tryz.ntmps6
    go_wp2_with (go_at_call 16; refine (relationFrom_no _ _ _ _ hl HP.out hx).mono ?_; rintro e w1 ⟨rfl, hb⟩)
    go_ret2
    exact ⟨rfl, hb.alloc hb.size _⟩
  | true =>
    have h4 := (relIn_len hp).2
    have HP := Lib.hid hp
    clear hp
    obtain ⟨i0, hi, hz0, hz1, hz2⟩ := info_parts Tryz.info5
    go_enter Tryz.func6, Tryz.ntmps6
    go_wp2_with fail
    refine (relationFrom_yes _ _ _ _ HP.out hx).mono ?_
    rintro e w1 ⟨rfl, hb⟩
    have x1 := RelAt.new w1 xs
    have B1 := hb.alloc hb.size (.cells #[.int .i64 xs.length, .int .i64 (rowAt xs 0), .int .i64 (rowAt xs 1), .int .i64 (rowAt xs 2), .int .i64 (rowAt xs 3)] 36)
    clear hb hx
    go_wp2_with fail
    refine (kindTests_any _).mono ?_
    rintro e w2 ⟨b, F, rfl, hbb, hF, hA, hb2⟩
    have x2 := x1.below hb2 x1.lt
    have B2 := B1.trans (hb2.mono B1.size)
    have HA := Lib.hid (And.intro hF hA)
    have hbl := hF.1
    have ho := row_lit0T 5 w2
    have hB0 := below_one w2 (.cells #[] 5)
    clear hF hA hb2 x1 B1 hbb
    go_wp2
    go_loopw [18, 7, 8] (fun i t _ wr => ∃ k : Nat, k ≤ 10 ∧ i = .int .i64 k ∧ wr.ownsRow w2.heap.size 5 1 t (pickL (fun i => kindB (byt risat i) xs) k).length (u8V (pickL (fun i => kindB (byt risat i) xs) k)) ∧ Below w2.heap.size w2 wr)
      (fun i _ _ _ => 10 - (intOf i).toNat)
    case atStart => exact ⟨0, Nat.zero_le _, rfl, ho, hB0⟩
    case round =>
      clear ho hB0
      obtain ⟨k, hk, rfl, ho, hB⟩ := hrel
      by_cases hlt : k < 10
      · have hxl := byt_lt risat k
        have hb := byt_at risat k hlt
        have hin := risat_at k hlt
        obtain ⟨x, hx2⟩ : ∃ x, byt risat k = x := ⟨_, rfl⟩
        rw [hx2] at hb hin hxl
        unfold risat at hb
        have hlk := ((HA.out.1.below hB hbl).2 wr.drew rfl x hxl).2
        obtain ⟨g, caps, hvk, hcf, hC⟩ := HA.out.2 x hin
        rw [hvk] at hlk
        have hC1 := fun W hW => hC xs W (Rl.of HP.out) hW
        have x3 := x2.below hB x2.lt
        have p0 := x3.cell0
        have p1 := x3.cell1
        have p2 := x3.cell2
        have p3 := x3.cell3
        have p4 := x3.cell4
        have hpl := pick_len (fun i => kindB (byt risat i) xs) k
        have hi1 : ((k : Nat) : Int) < 10 := by omega
        have hxl2 := x2.lt
        cases hf : kindB x xs with
        | true =>
          rw [hf] at hC1
          have hs := pick_yes (fun i => kindB (byt risat i) xs) k (by rw [hx2]; exact hf)
          have hu : (risat.data.toList.getD k 0).toNat = x := by rw [← hx2]; rcases (by omega : k = 0 ∨ k = 1 ∨ k = 2 ∨ k = 3 ∨ k = 4 ∨ k = 5 ∨ k = 6 ∨ k = 7 ∨ k = 8 ∨ k = 9) with rfl | rfl | rfl | rfl | rfl | rfl | rfl | rfl | rfl | rfl <;> rfl
          have HC := Lib.hid hC1
          have HS := Lib.hid (And.intro hs hu)
          have HX := Lib.hid (And.intro x3 (And.intro ho hB))
          clear hC1 hC hs hu hf hin hx2 hvk x3
          go_wp2
          go_region_held (fun w' => w'.cell? ⟨w1.heap.size, 0, none⟩ = some (.int .i64 xs.length) ∧ w'.cell? ⟨w1.heap.size, 1, none⟩ = some (.int .i64 (rowAt xs 0)) ∧ w'.cell? ⟨w1.heap.size, 2, none⟩ = some (.int .i64 (rowAt xs 1)) ∧ w'.cell? ⟨w1.heap.size, 3, none⟩ = some (.int .i64 (rowAt xs 2)) ∧ w'.cell? ⟨w1.heap.size, 4, none⟩ = some (.int .i64 (rowAt xs 3))) (go_keep) (first | (refine (HC.out _ HX.out.2.2.drew).mono ?_; rintro e w3 ⟨rfl, hb3⟩; have x4 := HX.out.1.drew.below hb3 HX.out.1.drew.lt; have p0 := x4.cell0; have p1 := x4.cell1; have p2 := x4.cell2; have p3 := x4.cell3; have p4 := x4.cell4))
          all_goals
            have ho3 := own_keepE HX.out.2.1.drew hb3 (fun q hq => (HX.out.2.1.lt q hq).2)
            have B3 := HX.out.2.2.drew.trans (hb3.mono HX.out.2.2.drew.size)
            clear hb3 x4 p0 p1 p2 p3 p4 hlk
            go_wp2_with (at_builtin; refine wpList_append_own _ rfl (.tmp 27) (.tmp 30) 22 rfl w2.heap.size 5 i0 (.int .u8 0) 1 1 Tryz.underlying22 hi hz0 hz1 hz2 rfl (by decide) _ _ _ rfl (ho3.alloc _) ⟨w3.heap.size, 0, none⟩ 1 1 [_] rfl rfl (cell_one_new _ _ _) (by simp [Value.oneCell']) (by unfold maxLen; omega) (by omega) (by have := B3.size; simp; omega) ?_)
            intro v' w4 hown' hgrow _
            have hb' := own_step' ho3 B3 B3.size _ hgrow
            clear ho3 B3 hgrow
            go_wp2
            go_roundw
            case rel =>
              refine ⟨k + 1, by omega, by go_num, ?_, hb'⟩
              rw [HS.out.1]
              unfold u8V
              rw [List.map_append, List.length_append, List.map_cons, HS.out.2]
              exact hown'
            case measure => simp [intOf]; omega
        | false =>
          rw [hf] at hC1
          have hs := pick_no (fun i => kindB (byt risat i) xs) k (by rw [hx2]; exact hf)
          have HC := Lib.hid hC1
          have HS := Lib.hid hs
          have HX := Lib.hid (And.intro x3 (And.intro ho hB))
          clear hC1 hC hs hf hin hx2 hvk x3
          go_wp2
          go_region_held (fun w' => w'.cell? ⟨w1.heap.size, 0, none⟩ = some (.int .i64 xs.length) ∧ w'.cell? ⟨w1.heap.size, 1, none⟩ = some (.int .i64 (rowAt xs 0)) ∧ w'.cell? ⟨w1.heap.size, 2, none⟩ = some (.int .i64 (rowAt xs 1)) ∧ w'.cell? ⟨w1.heap.size, 3, none⟩ = some (.int .i64 (rowAt xs 2)) ∧ w'.cell? ⟨w1.heap.size, 4, none⟩ = some (.int .i64 (rowAt xs 3))) (go_keep) (first | (refine (HC.out _ HX.out.2.2.drew).mono ?_; rintro e w3 ⟨rfl, hb3⟩; have x4 := HX.out.1.drew.below hb3 HX.out.1.drew.lt; have p0 := x4.cell0; have p1 := x4.cell1; have p2 := x4.cell2; have p3 := x4.cell3; have p4 := x4.cell4))
          all_goals
            have ho3 := own_keepE HX.out.2.1.drew hb3 (fun q hq => (HX.out.2.1.lt q hq).2)
            have B3 := HX.out.2.2.drew.trans (hb3.mono HX.out.2.2.drew.size)
            clear hb3 x4 p0 p1 p2 p3 p4 hlk
            go_wp2
            go_roundw
            case rel =>
              refine ⟨k + 1, by omega, by go_num, ?_, B3⟩
              rw [HS.out]
              exact ho3
            case measure => simp [intOf]; omega
      · obtain rfl : k = 10 := by omega
        have hcv := run_own_string ho
        go_wp2
        go_ret2
        exact ⟨rfl, B2.trans (hB.mono B2.size)⟩
end Go.Proofs.YthdnpcpimggjnaaGreatDoor
