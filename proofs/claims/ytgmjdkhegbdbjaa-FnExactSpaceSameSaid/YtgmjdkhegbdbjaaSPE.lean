/-
  Contracts of the model's SpaceEven and of rowSpace.isEven.
-/
import Derived.Test.YtgmjdkhegbdbjaaSPD
namespace Go.Proofs.Ytgmjdkhegbdbjaa
open Go.RowKit

def evI (F : Nat → Nat → Nat → Bool) (n i : Nat) : Bool := (List.range i).all fun a => (List.range n).all fun b => (List.range n).all fun c => F a b c
def evJ (F : Nat → Nat → Nat → Bool) (n i j : Nat) : Bool := evI F n i && (List.range j).all fun b => (List.range n).all fun c => F i b c
def evK (F : Nat → Nat → Nat → Bool) (n i j k : Nat) : Bool := evJ F n i j && (List.range k).all fun c => F i j c
theorem evK_step (F : Nat → Nat → Nat → Bool) (n i j k : Nat) : evK F n i j (k + 1) = (evK F n i j k && F i j k) := by
  unfold evK
  rw [List.range_succ, List.all_append, Bool.and_assoc]
  simp
theorem evK_zero (F : Nat → Nat → Nat → Bool) (n i j : Nat) : evK F n i j 0 = evJ F n i j := by simp [evK]
theorem evJ_zero (F : Nat → Nat → Nat → Bool) (n i : Nat) : evJ F n i 0 = evI F n i := by simp [evJ]
theorem evJ_step (F : Nat → Nat → Nat → Bool) (n i j : Nat) : evJ F n i (j + 1) = evK F n i j n := by
  unfold evK evJ
  rw [List.range_succ, List.all_append, Bool.and_assoc]
  simp
theorem evI_step (F : Nat → Nat → Nat → Bool) (n i : Nat) : evI F n (i + 1) = evJ F n i n := by
  unfold evJ evI
  rw [List.range_succ, List.all_append]
  simp
theorem evI_no (F : Nat → Nat → Nat → Bool) (n i j k : Nat) (hi : i < n) (hj : j < n) (hk : k < n) (h : F i j k = false) : evI F n n = false := by
  rw [Bool.eq_false_iff]
  intro e
  unfold evI at e
  simp only [List.all_eq_true, List.mem_range] at e
  rw [e i hi j hj k hk] at h
  cases h
def evF (ms L : List Int) (i j k : Nat) : Bool :=
  meetTo ms (bits .and .i64 (rowAt L i) (bits .or .i64 (rowAt L j) (rowAt L k))) ms.length ==
    bits .or .i64 (meetTo ms (bits .and .i64 (rowAt L i) (rowAt L j)) ms.length) (meetTo ms (bits .and .i64 (rowAt L i) (rowAt L k)) ms.length)
set_option maxRecDepth 100000 in
theorem evF_same {xs : List Int} (h : Rl xs.length xs) (i j k : Nat) : evF (spL xs) (spL xs) i j k = evF xs (spL xs) i j k := by
  have h4 := h.four
  unfold evF
  rw [meet_same h (St.and h4 (spL_st h i) (St.or h4 (spL_st h j) (spL_st h k))), meet_same h (St.and h4 (spL_st h i) (spL_st h j)), meet_same h (St.and h4 (spL_st h i) (spL_st h k))]
theorem Rd.cell {w : World} {xs : List Int} {b off : Nat} (h : Rd w (some ⟨b, off, none⟩) xs) (k : Nat) (hk : k < xs.length) : w.cell? ⟨b, off + k, none⟩ = some (.int .i64 (rowAt xs k)) := by
  obtain ⟨b', off', x, hx, e, _, hc⟩ := h.get k hk
  simp only [Option.some.injEq, Addr.mk.injEq, and_true] at e
  obtain ⟨rfl, rfl⟩ := e
  rw [rowAt_of hx]
  exact hc
/-- the model's word -/
def evB (xs : List Int) : Bool := relIn xs && evI (evF xs (spL xs)) (spL xs).length (spL xs).length
def evL (xs : List Int) : List Int := ifR (relIn xs) (spL xs)
theorem evB_is (xs : List Int) : evB xs = (relIn xs && evI (evF xs (evL xs)) (evL xs).length (evL xs).length) := by
  unfold evB evL
  cases relIn xs <;> simp [ifR]
theorem spL_le16 {xs : List Int} (h : xs.length ≤ 4) : (spL xs).length ≤ 16 := by
  unfold spL
  rw [List.length_map]
  exact Nat.le_trans (List.length_filter_le _ _) (by rw [List.length_range]; exact Nat.pow_le_pow_right (n := 2) (by omega) h)
theorem evL_len (xs : List Int) : (evL xs).length ≤ 16 := by
  unfold evL
  cases h : relIn xs with
  | false => exact Nat.zero_le _
  | true => exact spL_le16 (Rl.of h).four
theorem read_rd {w : World} {lo : Nat} {v : Value} {L : List Int} (ho : w.ownsRow lo 3 1 v L.length (L.map (Value.int .i64))) : ∃ aw cw, v = .slice aw L.length cw ∧ Rd w aw L := by
  rcases ho.2 with ⟨rfl, hn⟩ | ⟨g, cap, cur, rfl, rest⟩
  · exact ⟨none, 0, by rw [hn], fun k x hx => by rw [List.eq_nil_of_length_eq_zero hn] at hx; simp at hx⟩
  · exact ⟨_, cap, rfl, rd_own (cap := cap) ⟨ho.1, .inr ⟨g, cap, cur, rfl, rest⟩⟩ rfl⟩
theorem rd_drew {w : World} {ao : Option Addr} {xs : List Int} (h : Rd w ao xs) (q : Nat) : Rd (w.drewN q) ao xs := (Dn.drewN w q).rd h

set_option maxHeartbeats 4000000 in
theorem specSpaceEven_any (ao : Option Addr) (ca : Nat) (xs : List Int) (w : World) (hl : xs.length ≤ 1048576) (hx : Rd w ao xs) :
    Calls Try.prog 20 #[.slice ao xs.length ca] w fun e w' => e = .returned (.bool (evB xs)) ∧ Below w.heap.size w w' := by
  have h1 := specSpaceOf_any ao ca xs w hl hx
  rw [evB_is]
  have hlen := evL_len xs
  rw [show ifR (relIn xs) (spL xs) = evL xs from rfl] at h1
  generalize evL xs = L at h1 hlen ⊢
  generalize relIn xs = ok at h1 ⊢
  have HX := Lib.hid hx
  have H1 := Lib.hid h1
  clear h1 hx
  go_enter Try.func20, Try.ntmps20
  go_wp2_with fail
  refine H1.out.mono ?_
  rintro e w1 ⟨v, rfl, ho, hb⟩
  obtain ⟨aw, cw, rfl, hL⟩ := read_rd ho
  have HL := Lib.hid hL
  have HX1 := Lib.hid (HX.out.below hb)
  have HB := Lib.hid hb
  clear hL hb ho
  go_wp2
  go_loopw [4, 5] (fun v i wr => ∃ a : Nat, a ≤ L.length ∧ i = .int .i64 a ∧ v = .bool (ok && evI (evF xs L) L.length a) ∧ Dn w1 wr)
    (fun _ i _ => L.length - (intOf i).toNat)
  case atStart => exact ⟨0, Nat.zero_le _, rfl, by simp [evI], Dn.refl _⟩
  case round =>
    obtain ⟨i, hi, rfl, rfl, hd⟩ := hrel
    by_cases hli : i < L.length
    · have h0 := evJ_zero (evF xs L) L.length i
      rw [← h0]
      clear h0
      go_wp2
      go_loopw [4, 6] (fun v j wr => ∃ a : Nat, a ≤ L.length ∧ j = .int .i64 a ∧ v = .bool (ok && evJ (evF xs L) L.length i a) ∧ Dn w1 wr)
        (fun _ j _ => L.length - (intOf j).toNat)
      case atStart => exact ⟨0, Nat.zero_le _, rfl, rfl, hd⟩
      case round =>
        clear hd
        obtain ⟨j, hj, rfl, rfl, hd⟩ := hrel
        by_cases hlj : j < L.length
        · have h0 := evK_zero (evF xs L) L.length i j
          rw [← h0]
          clear h0
          go_wp2
          go_loopw [4, 7] (fun v k wr => ∃ a : Nat, a ≤ L.length ∧ k = .int .i64 a ∧ v = .bool (ok && evK (evF xs L) L.length i j a) ∧ Dn w1 wr)
            (fun _ k _ => L.length - (intOf k).toNat)
          case atStart => exact ⟨0, Nat.zero_le _, rfl, rfl, hd⟩
          case round =>
            clear hd
            obtain ⟨k, hk, rfl, rfl, hd⟩ := hrel
            by_cases hlk : k < L.length
            · obtain ⟨b, off, _, hz1, rfl, _, hz2⟩ := (hd.rd HL.out).get i hli
              clear hz1 hz2
              have r := hd.rd HL.out
              have ci := r.cell i hli
              have cj := r.cell j hlj
              have ck := r.cell k hlk
              have hi1 : ((i : Nat) : Int) < (L.length : Int) := by omega
              have hj1 : ((j : Nat) : Int) < (L.length : Int) := by omega
              have hk1 : ((k : Nat) : Int) < (L.length : Int) := by omega
              have hM : ∀ (W : World), Dn w1 W → ∀ (q : Nat) (x y : Int), Calls Try.prog 40 #[.slice ao xs.length ca, .int .i64 x, .int .i64 y] (W.drewN q) fun e w' => e = .returned (.int .i64 (meetTo xs (bits .and .i64 x y) xs.length)) ∧ Dn (W.drewN q) w' :=
                fun W dW q x y => l7Meet_any ao ca xs x y _ hl ((dW.trans (Dn.drewN W q)).rd HX1.out)
              have hM1 := hM wr hd
              have hst := evK_step (evF xs L) L.length i j k
              have HH := Lib.hid (And.intro hM (And.intro hst hd))
              have HM := Lib.hid hM1
              clear hM hM1 hst r hd
              go_wp2
              go_quiet ((go_at_call 40; exact quiet_dn (HM.out _ _ _)))
              have hd' := HH.out.2.2.trans (Dn.drewN wr nq)
              rw [← Dn.cell (Dn.drewN wr nq)] at ci cj ck
              obtain ⟨wq, hwq⟩ : ∃ wq, wr.drewN nq = wq := ⟨_, rfl⟩
              rw [hwq] at hd' ci cj ck ⊢
              clear hwq
              have hM2 := HH.out.1 wq hd'
              have HM2 := Lib.hid hM2
              have HD := Lib.hid hd'
              clear hM2 HM hd'
              go_wp2
              go_quiet ((go_at_call 40; exact quiet_dn (HM2.out _ _ _)))
              have hd2 := HD.out.trans (Dn.drewN wq nq)
              have hst := HH.out.2.1
              have hF : evF xs L i j k = (meetTo xs (bits .and .i64 (rowAt L i) (bits .or .i64 (rowAt L j) (rowAt L k))) xs.length == bits .or .i64 (meetTo xs (bits .and .i64 (rowAt L i) (rowAt L j)) xs.length) (meetTo xs (bits .and .i64 (rowAt L i) (rowAt L k)) xs.length)) := rfl
              generalize meetTo xs (bits .and .i64 (rowAt L i) (bits .or .i64 (rowAt L j) (rowAt L k))) xs.length = p1 at hF ⊢
              generalize bits .or .i64 (meetTo xs (bits .and .i64 (rowAt L i) (rowAt L j)) xs.length) (meetTo xs (bits .and .i64 (rowAt L i) (rowAt L k)) xs.length) = p2 at hF ⊢
              rw [hF] at hst
              generalize evK (evF xs L) L.length i j k = e1 at hst ⊢
              have HS := Lib.hid (And.intro hst hd2)
              clear hst hd2 hF HM2 ci cj ck
              cases ok <;> cases e1 <;> (
                go_wp2
                go_roundw
                case rel => exact ⟨k + 1, by omega, by go_num, by rw [HS.out.1]; rfl, HS.out.2⟩
                case measure => simp [intOf]; omega)
            · obtain rfl : k = L.length := by omega
              go_wp2
              go_roundw
              case rel => exact ⟨j + 1, by omega, by go_num, by rw [evJ_step], hd⟩
              case measure => simp [intOf]; omega
        · obtain rfl : j = L.length := by omega
          go_wp2
          go_roundw
          case rel => exact ⟨i + 1, by omega, by go_num, by rw [evI_step], hd⟩
          case measure => simp [intOf]; omega
    · obtain rfl : i = L.length := by omega
      go_wp2
      go_ret
      exact ⟨rfl, HB.out.trans (hd.below _)⟩

set_option maxHeartbeats 4000000 in
theorem spEven_any (ao : Option Addr) (ca : Nat) (xs : List Int) (w : World) (hl : xs.length ≤ 1048576) (hx : Rd w ao xs) :
    Calls Try.prog 43 #[.slice ao xs.length ca] w fun e w' => e = .returned (.bool (evI (evF xs xs) xs.length xs.length)) ∧ Dn w w' := by
  have HX := Lib.hid hx
  clear hx
  go_enter Try.func43, Try.ntmps43
  go_wp2
  go_loopw [11] (fun i wr => ∃ a : Nat, a ≤ xs.length ∧ i = .int .i64 a ∧ evI (evF xs xs) xs.length a = true ∧ Dn w wr)
    (fun i _ => xs.length - (intOf i).toNat)
  case atStart => exact ⟨0, Nat.zero_le _, rfl, by simp [evI], Dn.refl _⟩
  case round =>
    obtain ⟨i, hi, rfl, hI, hd⟩ := hrel
    by_cases hli : i < xs.length
    · obtain ⟨b, off, _, hz1, rfl, _, hz2⟩ := (hd.rd HX.out).get i hli
      clear hz1 hz2
      have ci := (hd.rd HX.out).cell i hli
      have hi1 : ((i : Nat) : Int) < (xs.length : Int) := by omega
      go_wp2
      go_loopw [17] (fun j wr => ∃ a : Nat, a ≤ xs.length ∧ j = .int .i64 a ∧ evJ (evF xs xs) xs.length i a = true ∧ Dn w wr)
        (fun j _ => xs.length - (intOf j).toNat)
      case atStart => exact ⟨0, Nat.zero_le _, rfl, by rw [evJ_zero]; exact hI, hd⟩
      case round =>
        clear hd hI ci
        obtain ⟨j, hj, rfl, hJ, hd⟩ := hrel
        by_cases hlj : j < xs.length
        · have cj := (hd.rd HX.out).cell j hlj
          have hj1 : ((j : Nat) : Int) < (xs.length : Int) := by omega
          go_wp2
          go_loopw [23] (fun k wr => ∃ a : Nat, a ≤ xs.length ∧ k = .int .i64 a ∧ evK (evF xs xs) xs.length i j a = true ∧ Dn w wr)
            (fun k _ => xs.length - (intOf k).toNat)
          case atStart => exact ⟨0, Nat.zero_le _, rfl, by rw [evK_zero]; exact hJ, hd⟩
          case round =>
            clear hd hJ cj
            obtain ⟨k, hk, rfl, hK, hd⟩ := hrel
            by_cases hlk : k < xs.length
            · have ck := (hd.rd HX.out).cell k hlk
              have hk1 : ((k : Nat) : Int) < (xs.length : Int) := by omega
              have hst := evK_step (evF xs xs) xs.length i j k
              have hno := evI_no (evF xs xs) xs.length i j k hli hlj hlk
              rw [hK, Bool.true_and] at hst
              have hF : evF xs xs i j k = (meetTo xs (bits .and .i64 (rowAt xs i) (bits .or .i64 (rowAt xs j) (rowAt xs k))) xs.length == bits .or .i64 (meetTo xs (bits .and .i64 (rowAt xs i) (rowAt xs j)) xs.length) (meetTo xs (bits .and .i64 (rowAt xs i) (rowAt xs k)) xs.length)) := rfl
              have HH := Lib.hid (And.intro hst (And.intro hno (And.intro hF hd)))
              clear hst hno hF hK
              go_wp2_with fail
              refine (spMeet_any _ _ xs _ _ _ hl (hd.rd HX.out)).mono ?_
              rintro e w2 ⟨rfl, hd2⟩
              have HD2 := Lib.hid (hd.trans hd2)
              clear hd2 hd ck
              go_wp2_with fail
              refine (spMeet_any _ _ xs _ _ _ hl (HD2.out.rd HX.out)).mono ?_
              rintro e w3 ⟨rfl, hd3⟩
              have HD3 := Lib.hid (HD2.out.trans hd3)
              clear hd3 HD2
              go_wp2_with fail
              refine (spMeet_any _ _ xs _ _ _ hl (HD3.out.rd HX.out)).mono ?_
              rintro e w4 ⟨rfl, hd4⟩
              have HD4 := Lib.hid (HD3.out.trans hd4)
              clear hd4 HD3
              have hF := HH.out.2.2.1
              have hst := HH.out.1
              have hno := HH.out.2.1
              generalize meetTo xs (bits .and .i64 (rowAt xs i) (bits .or .i64 (rowAt xs j) (rowAt xs k))) xs.length = p1 at hF ⊢
              cases hb : evF xs xs i j k with
              | true =>
                rw [hb] at hF hst
                have hb2 := hF.symm
                have hb3 : (p1 != bits .or .i64 (meetTo xs (bits .and .i64 (rowAt xs i) (rowAt xs j)) xs.length) (meetTo xs (bits .and .i64 (rowAt xs i) (rowAt xs k)) xs.length)) = false := by unfold bne; rw [hb2]; rfl
                have HS := Lib.hid hst
                clear hst hno hF hb hb2
                go_wp2
                go_roundw
                case rel => exact ⟨k + 1, by omega, by go_num, HS.out, HD4.out⟩
                case measure => simp [intOf]; omega
              | false =>
                have hz := Lib.hid (hno hb)
                rw [hb] at hF
                have hb2 := hF.symm
                have hb3 : (p1 != bits .or .i64 (meetTo xs (bits .and .i64 (rowAt xs i) (rowAt xs j)) xs.length) (meetTo xs (bits .and .i64 (rowAt xs i) (rowAt xs k)) xs.length)) = true := by unfold bne; rw [hb2]; rfl
                clear hst hno hF hb hb2
                go_wp2
                go_ret
                exact ⟨by rw [hz.out]; rfl, HD4.out⟩
            · obtain rfl : k = xs.length := by omega
              go_wp2
              go_roundw
              case rel => exact ⟨j + 1, by omega, by go_num, by rw [evJ_step]; exact hK, hd⟩
              case measure => simp [intOf]; omega
        · obtain rfl : j = xs.length := by omega
          go_wp2
          go_roundw
          case rel => exact ⟨i + 1, by omega, by go_num, by rw [evI_step]; exact hJ, hd⟩
          case measure => simp [intOf]; omega
    · obtain rfl : i = xs.length := by omega
      go_wp2
      go_ret
      exact ⟨by rw [hI]; rfl, hd⟩
end Go.Proofs.Ytgmjdkhegbdbjaa
