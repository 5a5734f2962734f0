/-
  Contracts of the model's l3Has and l3Text, for whatever texts.
-/
import Derived.Test.YtgmjdkhegbdbjaaGA
namespace Go.Proofs.Ytgmjdkhegbdbjaa
open Go.RowKit

/-- a byte of a text -/
def byt (st : ByteArray) (i : Nat) : Nat := if h : i < st.size then st[i].toNat else 0
theorem byt_at (st : ByteArray) (i : Nat) (h : i < st.size) : st[i].toNat = byt st i := by unfold byt; rw [dif_pos h]
/-- whether one of the first k bytes of a text is this one -/
def hasTo (st : ByteArray) (c k : Nat) : Bool := (List.range k).any fun i => decide (byt st i = c)
theorem hasTo_succ (st : ByteArray) (c k : Nat) : hasTo st c (k + 1) = (hasTo st c k || decide (byt st k = c)) := by
  unfold hasTo
  rw [List.range_succ, List.any_append]
  simp
theorem hasTo_yes (st : ByteArray) (c k n : Nat) (hk : k < n) (h : byt st k = c) : hasTo st c n = true := by
  unfold hasTo
  rw [List.any_eq_true]
  exact ⟨k, List.mem_range.2 hk, decide_eq_true h⟩

theorem l3Has_any (st : ByteArray) (c : Nat) (w : World) (hl : st.size ≤ 1048576) :
    Calls Try.prog 127 #[.string st, .int .u8 c] w fun e w' => e = .returned (.bool (hasTo st c st.size)) ∧ w = w' := by
  go_enter Try.func127, Try.ntmps127
  go_wp2
  go_loopw [5] (fun i wr => ∃ k : Nat, k ≤ st.size ∧ i = .int .i64 k ∧ hasTo st c k = false ∧ wr = w)
    (fun i _ => st.size - (intOf i).toNat)
  case atStart => exact ⟨0, Nat.zero_le _, rfl, rfl, rfl⟩
  case round =>
    obtain ⟨k, hk, rfl, hf, rfl⟩ := hrel
    by_cases hlt : k < st.size
    · have hb := byt_at st k hlt
      obtain ⟨x, hx⟩ : ∃ x, byt st k = x := ⟨_, rfl⟩
      rw [hx] at hb
      have hs := hasTo_succ st c k
      rw [hf, hx] at hs
      by_cases hxc : x = c
      · subst hxc
        have hy := hasTo_yes st x k st.size hlt hx
        have HY := Lib.hid hy
        clear hs hy hf hx
        go_wp2
        go_ret
        exact ⟨by rw [HY.out]; rfl, rfl⟩
      · have e1 : (((x : Nat) : Int) == (c : Int)) = false := beq_eq_false_iff_ne.2 (by omega)
        rw [decide_eq_false hxc] at hs
        have HS := Lib.hid hs
        clear hs hf hx hxc
        go_wp2
        go_roundw
        case rel => exact ⟨k + 1, by omega, by go_num, HS.out, trivial⟩
        case measure => simp [intOf]; omega
    · have hf2 : hasTo st c st.size = false := by rw [show st.size = k by omega]; exact hf
      have HF := Lib.hid hf2
      clear hf hf2
      go_wp2
      go_ret
      exact ⟨by rw [HF.out]; rfl, rfl⟩

/-- a letter of a text at a place: one of the letters, and none of those ahead of it -/
def letB (st lt : ByteArray) (i : Nat) : Bool := hasTo lt (byt st i) lt.size && !hasTo st (byt st i) i
/-- the first k letters are in order -/
def textTo (st lt : ByteArray) (k : Nat) : Bool := (List.range k).all (letB st lt)
theorem textTo_succ (st lt : ByteArray) (k : Nat) : textTo st lt (k + 1) = (textTo st lt k && letB st lt k) := by
  unfold textTo
  rw [List.range_succ, List.all_append]
  simp
theorem textTo_no (st lt : ByteArray) (k n : Nat) (hk : k < n) (h : letB st lt k = false) : textTo st lt n = false := by
  unfold textTo
  rw [List.all_eq_false]
  exact ⟨k, List.mem_range.2 hk, by rw [h]; simp⟩

set_option maxHeartbeats 4000000 in
theorem l3Text_any (st lt : ByteArray) (w : World) (hl : st.size ≤ 1048576) (hl2 : lt.size ≤ 1048576) :
    Calls Try.prog 126 #[.string st, .string lt] w fun e w' => e = .returned (.bool (textTo st lt st.size)) ∧ Dn w w' := by
  go_enter Try.func126, Try.ntmps126
  go_wp2
  go_loopw [5, 6, 7, 8] (fun i _ _ _ wr => ∃ k : Nat, k ≤ st.size ∧ i = .int .i64 k ∧ textTo st lt k = true ∧ Dn w wr)
    (fun i _ _ _ _ => st.size - (intOf i).toNat)
  case atStart => exact ⟨0, Nat.zero_le _, rfl, rfl, Dn.refl _⟩
  case round =>
    obtain ⟨i, hi, rfl, hf, hd⟩ := hrel
    obtain ⟨wo, rfl⟩ : ∃ wo : World, wo = wr := ⟨_, rfl⟩
    by_cases hlt : i < st.size
    · have hb := byt_at st i hlt
      obtain ⟨x, hx⟩ : ∃ x, byt st i = x := ⟨_, rfl⟩
      rw [hx] at hb
      have hi1 : ((i : Nat) : Int) < (st.size : Int) := by omega
      have HX := Lib.hid hx
      have HF := Lib.hid hf
      clear hx hf
      go_wp2
      go_loopw [6, 7] (fun b j wr => ∃ k : Nat, k ≤ lt.size ∧ j = .int .i64 k ∧ b = .bool (hasTo lt x k) ∧ Dn w wr)
        (fun _ j _ => lt.size - (intOf j).toNat)
      case atStart => exact ⟨0, Nat.zero_le _, rfl, rfl, hd⟩
      case round =>
        clear hd
        obtain ⟨j, hj, rfl, rfl, hd⟩ := hrel
        by_cases hlj : j < lt.size
        · have hb2 := byt_at lt j hlj
          obtain ⟨y, hy⟩ : ∃ x, byt lt j = x := ⟨_, rfl⟩
          rw [hy] at hb2
          have hs := hasTo_succ lt x j
          rw [hy] at hs
          have hj1 : ((j : Nat) : Int) < (lt.size : Int) := by omega
          have HS := Lib.hid hs
          clear hs hy
          cases hq : hasTo lt x j with
          | true =>
            rw [hq] at HS
            go_wp2
            go_quiet (fail)
            go_wp2
            go_roundw
            case rel => exact ⟨j + 1, by omega, by go_num, by rw [HS.out]; rfl, hd.trans (Dn.drewN _ _)⟩
            case measure => simp [intOf]; omega
          | false =>
            rw [hq] at HS
            have e1 : (((y : Nat) : Int) == (x : Int)) = decide (y = x) := by
              rw [Bool.eq_iff_iff]; simp; omega
            go_wp2
            go_quiet (fail)
            go_wp2
            go_roundw
            case rel => exact ⟨j + 1, by omega, by go_num, by rw [HS.out]; rfl, hd.trans (Dn.drewN _ _)⟩
            case measure => simp [intOf]; omega
        · obtain rfl : j = lt.size := by omega
          go_wp2
          go_loopw [6, 8] (fun b j wr => ∃ k : Nat, k ≤ i ∧ j = .int .i64 k ∧ b = .bool (hasTo lt x lt.size && !hasTo st x k) ∧ Dn w wr)
            (fun _ j _ => i - (intOf j).toNat)
          case atStart => exact ⟨0, Nat.zero_le _, rfl, by simp [hasTo], hd⟩
          case round =>
            clear hd
            obtain ⟨j, hj, rfl, rfl, hd⟩ := hrel
            by_cases hlj : j < i
            · have hb2 := byt_at st j (by omega)
              obtain ⟨y, hy⟩ : ∃ x, byt st j = x := ⟨_, rfl⟩
              rw [hy] at hb2
              have hs := hasTo_succ st x j
              rw [hy] at hs
              have hj1 : ((j : Nat) : Int) < (st.size : Int) := by omega
              have HS := Lib.hid hs
              clear hs hy
              cases hq : (hasTo lt x lt.size && !hasTo st x j) with
              | true =>
                have e1 : (((y : Nat) : Int) != (x : Int)) = !decide (y = x) := by
                  rw [Bool.eq_iff_iff]; simp; omega
                have HQ := Lib.hid hq
                clear hq
                go_wp2
                go_quiet (fail)
                go_wp2
                go_roundw
                case rel =>
                  have h1 := HQ.out
                  rw [Bool.and_eq_true] at h1
                  have h2 : hasTo st x j = false := by simpa using h1.2
                  exact ⟨j + 1, by omega, by go_num, by rw [HS.out, h1.1, h2]; rfl, hd.trans (Dn.drewN _ _)⟩
                case measure => simp [intOf]; omega
              | false =>
                have HQ := Lib.hid hq
                clear hq
                go_wp2
                go_quiet (fail)
                go_wp2
                go_roundw
                case rel =>
                  have h1 := HQ.out
                  exact ⟨j + 1, by omega, by go_num, by rw [HS.out]; revert h1; cases hasTo lt x lt.size <;> cases hasTo st x j <;> simp, hd.trans (Dn.drewN _ _)⟩
                case measure => simp [intOf]; omega
            · obtain rfl : j = i := by omega
              cases hq : (hasTo lt x lt.size && !hasTo st x j) with
              | true =>
                have h2 : textTo st lt (j + 1) = true := by rw [textTo_succ, HF.out, letB, HX.out, hq]; rfl
                have H2 := Lib.hid h2
                clear hq h2
                go_wp2
                go_roundw
                case rel => exact ⟨j + 1, by omega, by go_num, H2.out, hd⟩
                case measure => simp [intOf]; omega
              | false =>
                have h2 : textTo st lt st.size = false := textTo_no st lt j _ hlt (by rw [letB, HX.out, hq])
                have H2 := Lib.hid h2
                clear hq h2
                go_wp2
                go_ret
                exact ⟨by rw [H2.out]; rfl, hd⟩
    · go_wp2
      go_ret
      obtain rfl : i = st.size := by omega
      exact ⟨by rw [hf]; rfl, hd⟩
end Go.Proofs.Ytgmjdkhegbdbjaa
