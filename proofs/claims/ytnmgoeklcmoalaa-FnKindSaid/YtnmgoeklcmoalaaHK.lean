/-
  All kinds of a relation: KindAll of both.
-/
import Derived.Test.YtnmgoeklcmoalaaHH
namespace Go.Proofs.Ytnmgoeklcmoalaa
open Go.RowKit Go.Maps

/-- the letters at those places that pass -/
def pickL (f : Nat → Bool) (k : Nat) : List UInt8 := ((List.range k).filter f).map fun i => risat.data.toList.getD i 0
theorem pick_yes (f : Nat → Bool) (k : Nat) (h : f k = true) : pickL f (k + 1) = pickL f k ++ [risat.data.toList.getD k 0] := by
  unfold pickL
  rw [List.range_succ, List.filter_append]
  simp [h]
theorem pick_no (f : Nat → Bool) (k : Nat) (h : f k = false) : pickL f (k + 1) = pickL f k := by
  unfold pickL
  rw [List.range_succ, List.filter_append]
  simp [h]
theorem pick_len (f : Nat → Bool) (k : Nat) : (pickL f k).length ≤ k := by
  unfold pickL
  rw [List.length_map]
  have := List.length_filter_le f (List.range k)
  rw [List.length_range] at this
  exact this
def strOf (l : List UInt8) : ByteArray := ⟨l.toArray⟩
theorem str_one (l : List UInt8) (c : UInt8) : strOf l ++ ⟨#[c]⟩ = strOf (l ++ [c]) := by
  apply ByteArray.ext
  simp [strOf]
theorem str_cut (l : List UInt8) (i : Nat) (hi : i < 10) : strOf l ++ risat.extract i (i + 1) = strOf (l ++ [risat.data.toList.getD i 0]) := by
  rw [← str_one]
  congr 1
  rcases (by omega : i = 0 ∨ i = 1 ∨ i = 2 ∨ i = 3 ∨ i = 4 ∨ i = 5 ∨ i = 6 ∨ i = 7 ∨ i = 8 ∨ i = 9) with rfl | rfl | rfl | rfl | rfl | rfl | rfl | rfl | rfl | rfl <;> rfl
theorem str_fold (l : List UInt8) : ∀ acc : List UInt8, (l.map fun c => (c.toNat : Int)).foldl (fun r n => r.push (UInt8.ofNat n.toNat)) (strOf acc) = strOf (acc ++ l) := by
  induction l with
  | nil => intro acc; simp
  | cons c l ih =>
    intro acc
    rw [List.map_cons, List.foldl_cons]
    have e : (strOf acc).push (UInt8.ofNat (c.toNat : Int).toNat) = strOf (acc ++ [c]) := by
      apply ByteArray.ext
      simp [strOf]
    rw [e, ih]
    simp
theorem str_size (l : List UInt8) : (strOf l).size = l.length := by
  unfold strOf
  simp [ByteArray.size]
def kindsOf (xs : List Int) : ByteArray := if relIn xs then strOf (pickL (fun i => kindB (byt risat i) xs) 10) else ByteArray.empty

theorem risat_at (i : Nat) (h : i < 10) : hasTo risat (byt risat i) risat.size = true := by
  rcases (by omega : i = 0 ∨ i = 1 ∨ i = 2 ∨ i = 3 ∨ i = 4 ∨ i = 5 ∨ i = 6 ∨ i = 7 ∨ i = 8 ∨ i = 9) with rfl | rfl | rfl | rfl | rfl | rfl | rfl | rfl | rfl | rfl <;> decide +kernel

set_option maxHeartbeats 4000000 in
theorem specKindAll_any (ao : Option Addr) (ca : Nat) (xs : List Int) (w : World) (hl : xs.length ≤ 1048576) (hx : Rd w ao xs) :
    Calls Try.prog 79 #[.slice ao xs.length ca] w fun e w' => e = .returned (.tuple #[.string (kindsOf xs), .bool (relIn xs)]) ∧ Below w.heap.size w w' := by
  have h1 := specRelIn_any ao ca xs w hl hx
  unfold kindsOf
  cases hp : relIn xs with
  | false =>
    rw [hp] at h1
    have H1 := Lib.hid h1
    clear h1 hp
    go_enter Try.func79, Try.ntmps79
    go_wp2_with (go_at_call 28; refine H1.out.mono ?_; rintro e w1 ⟨rfl, hd⟩)
    go_ret2
    exact ⟨rfl, hd.below _⟩
  | true =>
    rw [hp] at h1
    have H1 := Lib.hid h1
    have HP := Lib.hid hp
    clear h1 hp
    go_enter Try.func79, Try.ntmps79
    go_wp2_with fail
    refine H1.out.mono ?_
    rintro e w1 ⟨rfl, hd⟩
    have hx1 := hd.rd hx
    have B1 := hd.below w.heap.size
    clear hd
    go_wp2_with fail
    refine (l3Letters_any w1).mono ?_
    rintro e w2 ⟨rfl, rfl⟩
    have HX := Lib.hid hx
    obtain ⟨lt, hlt⟩ : ∃ lt, risat = lt := ⟨_, rfl⟩
    have HL := Lib.hid hlt
    have hs10 : lt.size = 10 := by rw [← hlt]; rfl
    rw [hlt]
    clear hlt hx hx1
    go_wp2
    go_loopw [6, 4] (fun i t wr => ∃ k : Nat, k ≤ 10 ∧ i = .int .i64 k ∧ t = .string (strOf (pickL (fun i => kindB (byt risat i) xs) k)) ∧ Below w.heap.size w wr)
      (fun i _ _ => 10 - (intOf i).toNat)
    case atStart => exact ⟨0, Nat.zero_le _, rfl, rfl, B1⟩
    case round =>
      clear B1
      obtain ⟨k, hk, rfl, rfl, hB⟩ := hrel
      by_cases hlt : k < 10
      · have hb := byt_at lt k (by rw [hs10]; exact hlt)
        obtain ⟨x, hx2⟩ : ∃ x, byt lt k = x := ⟨_, rfl⟩
        rw [hx2] at hb
        have hx3 : byt risat k = x := by rw [HL.out]; exact hx2
        have hin := risat_at k hlt
        rw [hx3] at hin
        have hc := l3Kind_any (Rl.of HP.out) x (risat_in hin) ao ca wr (HX.out.below hB)
        have hcut := str_cut (pickL (fun i => kindB (byt risat i) xs) k) k hlt
        rw [HL.out] at hcut
        have hpl := pick_len (fun i => kindB (byt risat i) xs) k
        rw [← HL.out] at hcut
        have hi1 : ((k : Nat) : Int) < 10 := by omega
        have hsz : ¬ 9223372036854775807 < (strOf (pickL (fun i => kindB (byt risat i) xs) k)).size + (min (k + 1) 10 - k) := by rw [str_size]; omega
        cases hf : kindB x xs with
        | true =>
          rw [hf] at hc
          have hs := pick_yes (fun i => kindB (byt risat i) xs) k (by rw [hx3]; exact hf)
          have HC := Lib.hid hc
          have HS := Lib.hid (And.intro hs hcut)
          clear hc hs hf hin hx2 hx3 hcut
          go_wp2_with (refine HC.out.mono ?_; rintro e w2 ⟨rfl, hb2⟩)
          go_roundw
          case rel => exact ⟨k + 1, by omega, by go_num, by rw [HS.out.1, ← HS.out.2, HL.out], hB.trans (hb2.mono hB.size)⟩
          case measure => simp [intOf]; omega
        | false =>
          rw [hf] at hc
          have hs := pick_no (fun i => kindB (byt risat i) xs) k (by rw [hx3]; exact hf)
          have HC := Lib.hid hc
          have HS := Lib.hid hs
          clear hc hs hf hin hx2 hx3 hcut
          go_wp2_with (refine HC.out.mono ?_; rintro e w2 ⟨rfl, hb2⟩)
          go_roundw
          case rel => exact ⟨k + 1, by omega, by go_num, by rw [HS.out], hB.trans (hb2.mono hB.size)⟩
          case measure => simp [intOf]; omega
      · obtain rfl : k = 10 := by omega
        go_wp2
        go_ret2
        exact ⟨rfl, hB⟩

/-! the program's -/
theorem Try.info5 : (Try.prog.info? 5).map (fun i => (i.zero, i.size, i.bytes)) = some (some (.int .u8 0), 1, 1) := by kernel_rfl
def u8V (l : List UInt8) : List Value := l.map fun c => Value.int .u8 (c.toNat : Int)
theorem own_cells {w : World} {base : Nat} {e : TypeId} {g cap n : Nat} {vs : List Value} (h : w.ownsRow base e 1 (.slice (some ⟨g, 0, none⟩) n cap) n vs) (j : Nat) (v : Value) (hj : vs[j]? = some v) : w.cell? ((⟨g, 0, none⟩ : Addr).add j) = some v := by
  have hl : vs.length = n := by have := h.1; omega
  have hk : j < vs.length := (List.getElem?_eq_some_iff.1 hj).1
  have hc := h.cellAt j (by omega)
  rw [hj] at hc
  have hadd : (⟨g, 0, none⟩ : Addr).add j = ⟨g, j, none⟩ := by unfold Addr.add; split <;> simp_all
  rw [hadd]
  exact hc
set_option maxRecDepth 100000 in
/-- bytes of the call's own, as a string -/
theorem run_own_string {w : World} {base : Nat} {e : TypeId} {v : Value} {l : List UInt8} (h : w.ownsRow base e 1 v l.length (u8V l)) : Sem.run Try.prog (convert 22 9 v) w = .ok (.string (strOf l)) w := by
  rcases h.2 with ⟨rfl, h3⟩ | ⟨g, cap, cur, rfl, _⟩
  · have : l = [] := List.eq_nil_of_length_eq_zero h3
    subst this
    rfl
  · rw [run_convert_bytes_string w _ _ _ _ _ _ Try.underlying22 Try.underlying5 Try.underlying9]
    have hr := run_bytesToString (P := Try.prog) w ⟨g, 0, none⟩ l.length cap (l.map fun c => (c.toNat : Int)) (by
      have := run_loadCells_list (P := Try.prog) (w := w) ⟨g, 0, none⟩ (u8V l) (fun j v hj => own_cells h j v hj)
      rw [show (u8V l).length = l.length by unfold u8V; simp] at this
      rw [this]
      unfold u8V
      simp)
    rw [hr]
    have := str_fold l []
    rw [List.nil_append] at this
    rw [← this]
    rfl

end Go.Proofs.Ytnmgoeklcmoalaa
