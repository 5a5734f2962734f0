/-
  The model's kinds of relations, letter by letter.
-/
import Derived.Test.YthdnpcpimggjnaaGreatDoorHE
import Derived.Lib.Bytealg
import Derived.Test.YthdnpcpimggjnaaGreatDoorEG
import Derived.Test.YthdnpcpimggjnaaGreatDoorHB
namespace Go.Proofs.YthdnpcpimggjnaaGreatDoor
open Go.RowKit Go.Maps

theorem Tryz.info42 : (Tryz.prog.info? 42).map (fun i => (i.zero, i.size, i.bytes)) = some (some .nilFunc, 1, 8) := by kernel_rfl
theorem Tryz.info227 : (Tryz.prog.info? 227).map (fun i => (i.zero, i.size, i.bytes)) = some (some .nilFunc, 1, 8) := by kernel_rfl

/-- the slice at this address holds these values -/
def RdV (w : World) (ao : Option Addr) (vs : List Value) : Prop :=
  ∀ (k : Nat) v, vs[k]? = some v → ∃ b off, ao = some ⟨b, off, none⟩ ∧ b < w.heap.size ∧ w.cell? ⟨b, off + k, none⟩ = some v
theorem RdV.below {w w' : World} {ao : Option Addr} {vs : List Value} (h : RdV w ao vs) (hb : Below w.heap.size w w') : RdV w' ao vs := by
  intro k v hv
  obtain ⟨b, off, h1, h2, h3⟩ := h k v hv
  exact ⟨b, off, h1, Nat.lt_of_lt_of_le h2 hb.size, (hb.cell (p := ⟨b, off + k, none⟩) h2).trans h3⟩
theorem RdV.get {w : World} {ao : Option Addr} {vs : List Value} (h : RdV w ao vs) (k : Nat) (hk : k < vs.length) :
    ∃ b off, ao = some ⟨b, off, none⟩ ∧ b < w.heap.size ∧ w.cell? ⟨b, off + k, none⟩ = some vs[k] := h k vs[k] (List.getElem?_eq_getElem hk)
theorem rdV_of_row {w : World} {base : Nat} {e : TypeId} {v : Value} {vs : List Value} (h : w.ownsRow base e 1 v vs.length vs) : ∃ ao cap, v = .slice ao vs.length cap ∧ RdV w ao vs := by
  rcases h.2 with ⟨h2, h3⟩ | ⟨g, cap, cur, h1, h2, h3⟩
  · have : vs = [] := by simpa using h3
    subst this
    exact ⟨none, 0, h2, fun k v hv => absurd hv (by simp)⟩
  · refine ⟨some ⟨g, 0, none⟩, cap, h1, fun k u hu => ⟨g, 0, rfl, (h.lt g (by rw [h1]; rfl)).2, ?_⟩⟩
    have hk : k < vs.length := (List.getElem?_eq_some_iff.1 hu).1
    subst h1
    have hc := h.cellAt k (by simpa using hk)
    rw [Nat.zero_add]
    rw [hu] at hc
    exact hc

/-! the place of a byte in a string -/
theorem index_mem (l : List UInt8) (c : UInt8) : 0 ≤ Lib.indexByte l c ↔ c ∈ l := by
  induction l with
  | nil => simp [Lib.indexByte]
  | cons b l ih =>
    unfold Lib.indexByte
    by_cases hb : b = c
    · subst hb; simp
    · have h1 : (b == c) = false := by simpa using hb
      have hge := Lib.indexByte_ge l c
      have hne : ¬ c = b := fun e => hb e.symm
      rw [h1]
      by_cases h2 : Lib.indexByte l c = -1
      · have : ¬ c ∈ l := fun e => by have := ih.2 e; omega
        simp [h2, this, hne]
      · have h3 : c ∈ l := ih.1 (by omega)
        have h4 : (Lib.indexByte l c == -1) = false := by simpa using h2
        simp [h4, h3]
        omega
theorem byt_lt (st : ByteArray) (i : Nat) : byt st i < 256 := by
  unfold byt
  split
  · exact st[i].toNat_lt
  · omega
theorem extract_has (st : ByteArray) (i x : Nat) (hi : i ≤ st.size) (hx : x < 256) : decide (0 ≤ Lib.indexByte (st.extract 0 i).data.toList x.toUInt8) = hasTo st x i := by
  rw [Bool.eq_iff_iff, decide_eq_true_iff, index_mem]
  unfold hasTo
  rw [List.any_eq_true]
  have hd : (st.extract 0 i).data.toList = st.data.toList.take i := by rw [Lib.extract_data]; simp
  rw [hd]
  have hsz : st.data.toList.length = st.size := by simp
  constructor
  · intro h
    obtain ⟨j, hj, e⟩ := List.mem_iff_getElem.1 h
    have hj2 : j < i := by rw [List.length_take] at hj; omega
    have hj3 : j < st.size := by omega
    refine ⟨j, List.mem_range.2 hj2, decide_eq_true ?_⟩
    rw [← byt_at st j hj3]
    have e2 : st[j] = x.toUInt8 := by
      rw [← e, List.getElem_take]
      rfl
    rw [e2]
    simpa using hx
  · rintro ⟨j, hj, e⟩
    have hj2 := List.mem_range.1 hj
    have hj3 : j < st.size := by omega
    have e := of_decide_eq_true e
    rw [← byt_at st j hj3] at e
    rw [List.mem_iff_getElem]
    refine ⟨j, by rw [List.length_take]; omega, ?_⟩
    rw [List.getElem_take]
    have e2 : st[j] = x.toUInt8 := by
      apply UInt8.toNat_inj.1
      rw [e]
      exact Eq.symm (by simpa using hx)
    exact e2
set_option maxRecDepth 100000 in
theorem litIndexByte_any (s : ByteArray) (c : Int) (w : World) :
    Calls Tryz.prog 272 #[.string s, .int .u8 c] w fun e w' => e = .returned (.int .i64 (Lib.indexByte s.data.toList c.toNat.toUInt8)) ∧ w' = w := by
  go_enter Tryz.func272, Tryz.ntmps272
  go_wp2
  rw [run_callFunc_extern Tryz.func305 (by kernel_rfl) (by kernel_rfl) (by kernel_rfl) (e := Extern.BytealgIndexByte.indexByte) (by kernel_rfl), Lib.run_indexByteString]
  simp only [Result.andThen]
  rw [Oper.upon_value]
  go_wp2
  go_ret
  exact ⟨rfl, rfl⟩
theorem indexByte_any (s : ByteArray) (c : Int) (w : World) :
    Calls Tryz.prog 303 #[.string s, .int .u8 c] w fun e w' => e = .returned (.int .i64 (Lib.indexByte s.data.toList c.toNat.toUInt8)) ∧ w' = w := by
  go_enter Tryz.func303, Tryz.ntmps303
  go_wp2_with (go_at_call 272; refine (litIndexByte_any _ _ _).mono ?_; rintro e w' ⟨rfl, rfl⟩)
  go_ret
  exact ⟨rfl, rfl⟩

theorem own_keepE {w w' : World} {lo B n sz : Nat} {E : TypeId} {v : Value} {us : List Value} (h : w.ownsRow lo E sz v n us) (hb : Below B w w') (hB : ∀ k, v.ownBlock = some k → k < B) : w'.ownsRow lo E sz v n us := by
  refine ⟨h.1, ?_⟩
  rcases h.2 with h2 | ⟨g, cap, cur, h1, h2, h3, h4⟩
  · exact .inl h2
  · exact .inr ⟨g, cap, cur, h1, h2, (hb.block g (hB g (by rw [h1]; rfl))).trans h3, h4⟩
/-! toldBy -/
theorem own_drewN {w : World} {base : Nat} {e : TypeId} {size : Nat} {v : Value} {n : Nat} {xs : List Value} (hr : w.ownsRow base e size v n xs) (q : Nat) : (w.drewN q).ownsRow base e size v n xs := hr
def toldL (st lt : ByteArray) (F : Nat → Value) : List Value := if textTo st lt st.size then (List.range st.size).map fun i => F (byt st i) else []
theorem told_snoc (st : ByteArray) (F : Nat → Value) (k : Nat) : (List.range (k + 1)).map (fun i => F (byt st i)) = (List.range k).map (fun i => F (byt st i)) ++ [F (byt st k)] := by
  rw [List.range_succ, List.map_append]
  rfl
theorem row_lit0T (e : TypeId) (w : World) : (w.alloc (.cells #[] e)).ownsRow w.heap.size e 1 (.slice (some ⟨w.heap.size, 0, none⟩) 0 0) 0 [] :=
  ⟨rfl, .inr ⟨w.heap.size, 0, #[], rfl, Nat.le_refl _, (MapKept.heap_alloc w _).1, Nat.le_refl _, Nat.zero_le _, rfl, rfl⟩⟩
/-- what a call of toldBy gives -/
def GaveTold (E : TypeId) (w : World) (vs : List Value) (ok : Bool) (e : Ending) (w' : World) : Prop :=
  ∃ v, e = .returned (.tuple #[v, .bool ok]) ∧ w'.ownsRow w.heap.size E 1 v vs.length vs ∧ Below w.heap.size w w'

set_option maxHeartbeats 4000000 in
theorem toldTests_any (st lt : ByteArray) (b : Nat) (F : Nat → Value) (w : World) (hl : st.size ≤ 1048576) (h : FMap 39 w b lt F) (hF : ∀ c, hasTo lt c lt.size = true → ∃ g caps, F c = .func (.func g) #[] caps) :
    Calls Tryz.prog 310 #[.string st, .map (some b)] w (GaveTold 42 w (toldL st lt F) (textTo st lt st.size)) := by
  obtain ⟨i0, hi, hz0, hz1, hz2⟩ := info_parts Tryz.info42
  have h1 := h.below (below_one w (.cells #[] 42)) h.1
  have hbl := h.1
  have HM := Lib.hid h
  have HF := Lib.hid hF
  clear h h1 hF
  go_enter Tryz.func310, Tryz.ntmps310
  go_wp2
  go_loopw [14, 6, 4, 5, 7, 8, 9, 10] (fun i t _ _ _ _ _ _ wr => ∃ k : Nat, k ≤ st.size ∧ i = .int .i64 k ∧ textTo st lt k = true ∧ wr.ownsRow w.heap.size 42 1 t k ((List.range k).map fun i => F (byt st i)) ∧ Below w.heap.size w wr)
    (fun i _ _ _ _ _ _ _ _ => st.size - (intOf i).toNat)
  case atStart => exact ⟨0, Nat.zero_le _, rfl, rfl, row_lit0T _ w, below_one _ _⟩
  case round =>
    obtain ⟨k, hk, rfl, ht, ho, hB⟩ := hrel
    have HT := Lib.hid ht
    clear ht
    by_cases hlt : k < st.size
    · have hb := byt_at st k hlt
      have hxl := byt_lt st k
      obtain ⟨x, hx⟩ : ∃ x, byt st k = x := ⟨_, rfl⟩
      rw [hx] at hb hxl
      have hlk := ((HM.out.below hB hbl).2 wr rfl x hxl).1
      have hi1 : ((k : Nat) : Int) < (st.size : Int) := by omega
      have hin := extract_has st k x hk hxl
      obtain ⟨J, hJ⟩ : ∃ J, Lib.indexByte (st.extract 0 k).data.toList x.toUInt8 = J := ⟨_, rfl⟩
      have hidx : ∀ W, Calls Tryz.prog 303 #[.string (st.extract 0 k), .int .u8 (x : Int)] W fun e w' => e = .returned (.int .i64 J) ∧ w' = W := by
        intro W
        have := indexByte_any (st.extract 0 k) (x : Int) W
        rw [Int.toNat_natCast, hJ] at this
        exact this
      rw [hJ] at hin
      have HI := Lib.hid hidx
      have HX := Lib.hid hx
      have hls : letB st lt k = (hasTo lt x lt.size && !hasTo st x k) := by unfold letB; rw [hx]
      have HL := Lib.hid hls
      have hts := textTo_succ st lt k
      have HS := Lib.hid hts
      clear hidx hx hls hts hJ
      cases hb1 : hasTo lt x lt.size with
      | false =>
        rw [hb1] at hlk HL
        have hno := textTo_no st lt k st.size hlt HL.out
        have HN := Lib.hid hno
        clear hno hb1
        cases hb2 : hasTo st x k with
        | false =>
          rw [hb2] at hin
          clear hb2
          go_wp2
          go_quiet ((go_at_call 303; exact Calls.quiet_of_same (HI.out _)))
          go_wp2
          go_ret2
          refine ⟨.slice none 0 0, by rw [HN.out]; rfl, ?_, below_drewN hB _⟩
          unfold toldL
          rw [HN.out]
          exact World.ownsRow_nil _ _ _ _
        | true =>
          rw [hb2] at hin
          clear hb2
          go_wp2
          go_quiet ((go_at_call 303; exact Calls.quiet_of_same (HI.out _)))
          go_wp2
          go_ret2
          refine ⟨.slice none 0 0, by rw [HN.out]; rfl, ?_, below_drewN hB _⟩
          unfold toldL
          rw [HN.out]
          exact World.ownsRow_nil _ _ _ _
      | true =>
        rw [hb1] at hlk HL
        cases hb2 : hasTo st x k with
        | true =>
          rw [hb2] at hin HL
          have hno := textTo_no st lt k st.size hlt HL.out
          have HN := Lib.hid hno
          clear hno hb1 hb2
          go_wp2
          go_quiet ((go_at_call 303; exact Calls.quiet_of_same (HI.out _)))
          go_wp2
          go_ret2
          refine ⟨.slice none 0 0, by rw [HN.out]; rfl, ?_, below_drewN hB _⟩
          unfold toldL
          rw [HN.out]
          exact World.ownsRow_nil _ _ _ _
        | false =>
          rw [hb2] at hin HL
          obtain ⟨g, caps, hv⟩ := HF.out x hb1
          rw [hv] at hlk
          have HV := Lib.hid hv
          clear hb1 hb2 hv
          go_wp2
          go_quiet ((go_at_call 303; exact Calls.quiet_of_same (HI.out _)))
          have ho2 := own_drewN ho nq
          have hB2 := below_drewN hB nq
          obtain ⟨wq, hwq⟩ : ∃ wq, wr.drewN nq = wq := ⟨_, rfl⟩
          rw [hwq] at ho2 hB2 ⊢
          clear hwq ho hB
          go_wp2_with (at_builtin; refine wpList_append_own _ rfl (.tmp 38) (.tmp 40) 265 rfl w.heap.size 42 i0 .nilFunc 1 8 Tryz.underlying265 hi hz0 hz1 hz2 rfl (by decide) _ _ _ rfl (ho2.alloc _) ⟨wq.heap.size, 0, none⟩ 1 1 [_] rfl rfl (cell_one_new _ _ _) (by simp [Value.oneCell']) (by unfold maxLen; omega) (by omega) (by have := hB2.size; simp; omega) ?_)
          intro v' w1 hown' hgrow _
          have hb' := own_step' ho2 hB2 hB2.size _ hgrow
          clear ho2 hB2 hgrow
          go_wp2
          go_roundw
          case rel =>
            refine ⟨k + 1, by omega, by go_num, by rw [HS.out, HT.out, HL.out]; rfl, ?_, hb'⟩
            rw [told_snoc, HX.out, HV.out]
            exact hown'
          case measure => simp [intOf]; omega
    · obtain rfl : k = st.size := by omega
      go_wp2
      go_ret2
      refine ⟨_, by rw [HT.out]; rfl, ?_, hB⟩
      unfold toldL
      rw [HT.out, if_pos rfl]
      rw [show ((List.range st.size).map fun i => F (byt st i)).length = st.size by simp]
      exact ho
set_option maxHeartbeats 4000000 in
theorem toldSteps_any (st lt : ByteArray) (b : Nat) (F : Nat → Value) (w : World) (hl : st.size ≤ 1048576) (h : FMap 178 w b lt F) (hF : ∀ c, hasTo lt c lt.size = true → ∃ g caps, F c = .func (.func g) #[] caps) :
    Calls Tryz.prog 261 #[.string st, .map (some b)] w (GaveTold 227 w (toldL st lt F) (textTo st lt st.size)) := by
  obtain ⟨i0, hi, hz0, hz1, hz2⟩ := info_parts Tryz.info227
  have h1 := h.below (below_one w (.cells #[] 227)) h.1
  have hbl := h.1
  have HM := Lib.hid h
  have HF := Lib.hid hF
  clear h h1 hF
  go_enter Tryz.func261, Tryz.ntmps261
  go_wp2
  go_loopw [14, 6, 4, 5, 7, 8, 9, 10] (fun i t _ _ _ _ _ _ wr => ∃ k : Nat, k ≤ st.size ∧ i = .int .i64 k ∧ textTo st lt k = true ∧ wr.ownsRow w.heap.size 227 1 t k ((List.range k).map fun i => F (byt st i)) ∧ Below w.heap.size w wr)
    (fun i _ _ _ _ _ _ _ _ => st.size - (intOf i).toNat)
  case atStart => exact ⟨0, Nat.zero_le _, rfl, rfl, row_lit0T _ w, below_one _ _⟩
  case round =>
    obtain ⟨k, hk, rfl, ht, ho, hB⟩ := hrel
    have HT := Lib.hid ht
    clear ht
    by_cases hlt : k < st.size
    · have hb := byt_at st k hlt
      have hxl := byt_lt st k
      obtain ⟨x, hx⟩ : ∃ x, byt st k = x := ⟨_, rfl⟩
      rw [hx] at hb hxl
      have hlk := ((HM.out.below hB hbl).2 wr rfl x hxl).1
      have hi1 : ((k : Nat) : Int) < (st.size : Int) := by omega
      have hin := extract_has st k x hk hxl
      obtain ⟨J, hJ⟩ : ∃ J, Lib.indexByte (st.extract 0 k).data.toList x.toUInt8 = J := ⟨_, rfl⟩
      have hidx : ∀ W, Calls Tryz.prog 303 #[.string (st.extract 0 k), .int .u8 (x : Int)] W fun e w' => e = .returned (.int .i64 J) ∧ w' = W := by
        intro W
        have := indexByte_any (st.extract 0 k) (x : Int) W
        rw [Int.toNat_natCast, hJ] at this
        exact this
      rw [hJ] at hin
      have HI := Lib.hid hidx
      have HX := Lib.hid hx
      have hls : letB st lt k = (hasTo lt x lt.size && !hasTo st x k) := by unfold letB; rw [hx]
      have HL := Lib.hid hls
      have hts := textTo_succ st lt k
      have HS := Lib.hid hts
      clear hidx hx hls hts hJ
      cases hb1 : hasTo lt x lt.size with
      | false =>
        rw [hb1] at hlk HL
        have hno := textTo_no st lt k st.size hlt HL.out
        have HN := Lib.hid hno
        clear hno hb1
        cases hb2 : hasTo st x k with
        | false =>
          rw [hb2] at hin
          clear hb2
          go_wp2
          go_quiet ((go_at_call 303; exact Calls.quiet_of_same (HI.out _)))
          go_wp2
          go_ret2
          refine ⟨.slice none 0 0, by rw [HN.out]; rfl, ?_, below_drewN hB _⟩
          unfold toldL
          rw [HN.out]
          exact World.ownsRow_nil _ _ _ _
        | true =>
          rw [hb2] at hin
          clear hb2
          go_wp2
          go_quiet ((go_at_call 303; exact Calls.quiet_of_same (HI.out _)))
          go_wp2
          go_ret2
          refine ⟨.slice none 0 0, by rw [HN.out]; rfl, ?_, below_drewN hB _⟩
          unfold toldL
          rw [HN.out]
          exact World.ownsRow_nil _ _ _ _
      | true =>
        rw [hb1] at hlk HL
        cases hb2 : hasTo st x k with
        | true =>
          rw [hb2] at hin HL
          have hno := textTo_no st lt k st.size hlt HL.out
          have HN := Lib.hid hno
          clear hno hb1 hb2
          go_wp2
          go_quiet ((go_at_call 303; exact Calls.quiet_of_same (HI.out _)))
          go_wp2
          go_ret2
          refine ⟨.slice none 0 0, by rw [HN.out]; rfl, ?_, below_drewN hB _⟩
          unfold toldL
          rw [HN.out]
          exact World.ownsRow_nil _ _ _ _
        | false =>
          rw [hb2] at hin HL
          obtain ⟨g, caps, hv⟩ := HF.out x hb1
          rw [hv] at hlk
          have HV := Lib.hid hv
          clear hb1 hb2 hv
          go_wp2
          go_quiet ((go_at_call 303; exact Calls.quiet_of_same (HI.out _)))
          have ho2 := own_drewN ho nq
          have hB2 := below_drewN hB nq
          obtain ⟨wq, hwq⟩ : ∃ wq, wr.drewN nq = wq := ⟨_, rfl⟩
          rw [hwq] at ho2 hB2 ⊢
          clear hwq ho hB
          go_wp2_with (at_builtin; refine wpList_append_own _ rfl (.tmp 38) (.tmp 40) 224 rfl w.heap.size 227 i0 .nilFunc 1 8 Tryz.underlying224 hi hz0 hz1 hz2 rfl (by decide) _ _ _ rfl (ho2.alloc _) ⟨wq.heap.size, 0, none⟩ 1 1 [_] rfl rfl (cell_one_new _ _ _) (by simp [Value.oneCell']) (by unfold maxLen; omega) (by omega) (by have := hB2.size; simp; omega) ?_)
          intro v' w1 hown' hgrow _
          have hb' := own_step' ho2 hB2 hB2.size _ hgrow
          clear ho2 hB2 hgrow
          go_wp2
          go_roundw
          case rel =>
            refine ⟨k + 1, by omega, by go_num, by rw [HS.out, HT.out, HL.out]; rfl, ?_, hb'⟩
            rw [told_snoc, HX.out, HV.out]
            exact hown'
          case measure => simp [intOf]; omega
    · obtain rfl : k = st.size := by omega
      go_wp2
      go_ret2
      refine ⟨_, by rw [HT.out]; rfl, ?_, hB⟩
      unfold toldL
      rw [HT.out, if_pos rfl]
      rw [show ((List.range st.size).map fun i => F (byt st i)).length = st.size by simp]
      exact ho
end Go.Proofs.YthdnpcpimggjnaaGreatDoor

namespace Go.Proofs.YthdnpcpimggjnaaGreatDoor
open Go.RowKit

theorem Rl.pos {n : Nat} {xs : List Int} (h : Rl n xs) : 1 ≤ xs.length := h.len.symm ▸ h.one
theorem sSame {n : Nat} {xs : List Int} (h : Rl n xs) (w : World) : Calls Tryz.prog 50 #[.int .i64 xs.length] w (GaveL w (sameL xs.length)) := by
  refine (l1Same_any xs.length w (h.len.symm ▸ h.one) (h.len.symm ▸ h.four)).mono ?_
  rintro e w' ⟨v, rfl, ho, hb⟩
  exact ⟨v, rfl, by rw [sameL_len]; exact ho, hb⟩
theorem sBoth {n : Nat} {xs ys : List Int} (h : Rl n xs) (k : Rl n ys) (ao bo : Option Addr) (ca cb : Nat) (w : World) (hx : Rd w ao xs) (hy : Rd w bo ys) : Calls Tryz.prog 53 #[.slice ao xs.length ca, .slice bo ys.length cb] w (GaveL w (bothL xs ys)) := by
  refine (l1Both_any ao bo ca cb xs ys w (h.len.symm ▸ h.four) (h.len.trans k.len.symm) hx hy).mono ?_
  rintro e w' ⟨v, rfl, ho, hb⟩
  exact ⟨v, rfl, by rw [(h.both k).len, ← h.len]; exact ho, hb⟩
theorem sBelow {n : Nat} {xs ys : List Int} (h : Rl n xs) (k : Rl n ys) (ao bo : Option Addr) (ca cb : Nat) (w : World) (hx : Rd w ao xs) (hy : Rd w bo ys) : Calls Tryz.prog 49 #[.slice ao xs.length ca, .slice bo ys.length cb] w fun e w' => e = .returned (.bool (belowB xs ys)) ∧ Dn w w' :=
  l1Below_any ao bo ca cb xs ys w (h.len.symm ▸ h.four) (h.len.trans k.len.symm) hx hy
theorem sEqual {n : Nat} {xs ys : List Int} (h : Rl n xs) (k : Rl n ys) (ao bo : Option Addr) (ca cb : Nat) (w : World) (hx : Rd w ao xs) (hy : Rd w bo ys) : Calls Tryz.prog 52 #[.slice ao xs.length ca, .slice bo ys.length cb] w fun e w' => e = .returned (.bool (decide (xs = ys))) ∧ Dn w w' :=
  l2Equal_any ao bo ca cb xs ys w (by have := h.len; have := h.four; omega) (by have := k.len; have := k.four; omega) hx hy

set_option maxHeartbeats 4000000 in
theorem l3Kind_r_walk (xs b u : List Int) (s : Bool) (ao : Option Addr) (ca : Nat) (w : World) (nb : 1 ≤ b.length) (nu : 1 ≤ u.length) (hx : Rd w ao xs)
    (h1 : ∀ ao ca w, Rd w ao xs → Calls Tryz.prog 48 #[.slice ao xs.length ca] w (GaveL w b))
    (h2 : ∀ w, Calls Tryz.prog 50 #[.int .i64 xs.length] w (GaveL w u))
    (h3 : ∀ ao bo ca cb w, Rd w ao u → Rd w bo xs → Calls Tryz.prog 49 #[.slice ao u.length ca, .slice bo xs.length cb] w fun e w' => e = .returned (.bool s) ∧ Dn w w') :
    Calls Tryz.prog 20 #[.slice ao xs.length ca, .int .u8 114] w fun e w' => e = .returned (.bool s) ∧ Below w.heap.size w w' := by
  have H := Lib.hid (And.intro h1 (And.intro h2 h3))
  clear h1 h2 h3
  have rxs := hx
  clear hx
  have B0 := Below.refl w.heap.size w
  go_enter Tryz.func20, Tryz.ntmps20
  go_wp2_with fail
  refine (H.out.1 _ _ _ rxs).mono ?_
  rintro e w1 ⟨v, rfl, o1, b1⟩
  obtain ⟨gb, qb, rfl, _, _, rb⟩ := GaveL.form o1 nb
  have rxs := rxs.below b1
  have B0 := B0.trans (b1.mono B0.size)
  clear o1 b1
  go_wp2_with fail
  refine (H.out.2.1 _).mono ?_
  rintro e w2 ⟨v, rfl, o1, b1⟩
  obtain ⟨gu, qu, rfl, _, _, ru⟩ := GaveL.form o1 nu
  have rxs := rxs.below b1
  have rb := rb.below b1
  have B0 := B0.trans (b1.mono B0.size)
  clear o1 b1
  go_wp2_with fail
  refine (H.out.2.2 _ _ _ _ _ ru rxs).mono ?_
  rintro e w3 ⟨rfl, hd⟩
  have B0 := B0.trans (hd.below _)
  go_wp2
  go_ret
  exact ⟨rfl, B0⟩
theorem l3Kind_r {n : Nat} {xs : List Int} (h : Rl n xs) (ao : Option Addr) (ca : Nat) (w : World) (hx : Rd w ao xs) : Calls Tryz.prog 20 #[.slice ao xs.length ca, .int .u8 114] w fun e w' => e = .returned (.bool (kindR xs)) ∧ Below w.heap.size w w' := by
  have hs : Rl n (sameL xs.length) := by rw [h.len]; exact Rl.same h.one h.four
  exact l3Kind_r_walk xs (turnL xs) (sameL xs.length) (kindR xs) ao ca w (Rl.pos h.turn) (Rl.pos hs) hx (fun ao ca w => sTurn h ao ca w) (fun w => sSame h w) (fun ao bo ca cb w => sBelow hs h ao bo ca cb w)

set_option maxHeartbeats 4000000 in
theorem l3Kind_i_walk (xs b u v : List Int) (s : Bool) (ao : Option Addr) (ca : Nat) (w : World) (nb : 1 ≤ b.length) (nu : 1 ≤ u.length) (nv : 1 ≤ v.length) (hx : Rd w ao xs)
    (h1 : ∀ ao ca w, Rd w ao xs → Calls Tryz.prog 48 #[.slice ao xs.length ca] w (GaveL w b))
    (h2 : ∀ w, Calls Tryz.prog 50 #[.int .i64 xs.length] w (GaveL w u))
    (h3 : ∀ ao ca w, Rd w ao xs → Calls Tryz.prog 51 #[.slice ao xs.length ca] w (GaveL w v))
    (h4 : ∀ ao bo ca cb w, Rd w ao u → Rd w bo v → Calls Tryz.prog 49 #[.slice ao u.length ca, .slice bo v.length cb] w fun e w' => e = .returned (.bool s) ∧ Dn w w') :
    Calls Tryz.prog 20 #[.slice ao xs.length ca, .int .u8 105] w fun e w' => e = .returned (.bool s) ∧ Below w.heap.size w w' := by
  have H := Lib.hid (And.intro h1 (And.intro h2 (And.intro h3 h4)))
  clear h1 h2 h3 h4
  have rxs := hx
  clear hx
  have B0 := Below.refl w.heap.size w
  go_enter Tryz.func20, Tryz.ntmps20
  go_wp2_with fail
  refine (H.out.1 _ _ _ rxs).mono ?_
  rintro e w1 ⟨v, rfl, o1, b1⟩
  obtain ⟨gb, qb, rfl, _, _, rb⟩ := GaveL.form o1 nb
  have rxs := rxs.below b1
  have B0 := B0.trans (b1.mono B0.size)
  clear o1 b1
  go_wp2_with fail
  refine (H.out.2.1 _).mono ?_
  rintro e w2 ⟨v, rfl, o1, b1⟩
  obtain ⟨gu, qu, rfl, _, _, ru⟩ := GaveL.form o1 nu
  have rxs := rxs.below b1
  have rb := rb.below b1
  have B0 := B0.trans (b1.mono B0.size)
  clear o1 b1
  go_wp2_with fail
  refine (H.out.2.2.1 _ _ _ rxs).mono ?_
  rintro e w3 ⟨v, rfl, o1, b1⟩
  obtain ⟨gv, qv, rfl, _, _, rv⟩ := GaveL.form o1 nv
  have rxs := rxs.below b1
  have rb := rb.below b1
  have ru := ru.below b1
  have B0 := B0.trans (b1.mono B0.size)
  clear o1 b1
  go_wp2_with fail
  refine (H.out.2.2.2 _ _ _ _ _ ru rv).mono ?_
  rintro e w4 ⟨rfl, hd⟩
  have B0 := B0.trans (hd.below _)
  go_wp2
  go_ret
  exact ⟨rfl, B0⟩
theorem l3Kind_i {n : Nat} {xs : List Int} (h : Rl n xs) (ao : Option Addr) (ca : Nat) (w : World) (hx : Rd w ao xs) : Calls Tryz.prog 20 #[.slice ao xs.length ca, .int .u8 105] w fun e w' => e = .returned (.bool (kindI xs)) ∧ Below w.heap.size w w' := by
  have hs : Rl n (sameL xs.length) := by rw [h.len]; exact Rl.same h.one h.four
  exact l3Kind_i_walk xs (turnL xs) (sameL xs.length) (otherL xs) (kindI xs) ao ca w (Rl.pos h.turn) (Rl.pos hs) (Rl.pos (Rl.other h)) hx (fun ao ca w => sTurn h ao ca w) (fun w => sSame h w) (fun ao ca w => sOther h ao ca w) (fun ao bo ca cb w => sBelow hs (Rl.other h) ao bo ca cb w)

set_option maxHeartbeats 4000000 in
theorem l3Kind_s_walk (xs b : List Int) (s : Bool) (ao : Option Addr) (ca : Nat) (w : World) (nb : 1 ≤ b.length) (hx : Rd w ao xs)
    (h1 : ∀ ao ca w, Rd w ao xs → Calls Tryz.prog 48 #[.slice ao xs.length ca] w (GaveL w b))
    (h2 : ∀ ao bo ca cb w, Rd w ao xs → Rd w bo b → Calls Tryz.prog 52 #[.slice ao xs.length ca, .slice bo b.length cb] w fun e w' => e = .returned (.bool s) ∧ Dn w w') :
    Calls Tryz.prog 20 #[.slice ao xs.length ca, .int .u8 115] w fun e w' => e = .returned (.bool s) ∧ Below w.heap.size w w' := by
  have H := Lib.hid (And.intro h1 h2)
  clear h1 h2
  have rxs := hx
  clear hx
  have B0 := Below.refl w.heap.size w
  go_enter Tryz.func20, Tryz.ntmps20
  go_wp2_with fail
  refine (H.out.1 _ _ _ rxs).mono ?_
  rintro e w1 ⟨v, rfl, o1, b1⟩
  obtain ⟨gb, qb, rfl, _, _, rb⟩ := GaveL.form o1 nb
  have rxs := rxs.below b1
  have B0 := B0.trans (b1.mono B0.size)
  clear o1 b1
  go_wp2_with fail
  refine (H.out.2 _ _ _ _ _ rxs rb).mono ?_
  rintro e w2 ⟨rfl, hd⟩
  have B0 := B0.trans (hd.below _)
  go_wp2
  go_ret
  exact ⟨rfl, B0⟩
theorem l3Kind_s {n : Nat} {xs : List Int} (h : Rl n xs) (ao : Option Addr) (ca : Nat) (w : World) (hx : Rd w ao xs) : Calls Tryz.prog 20 #[.slice ao xs.length ca, .int .u8 115] w fun e w' => e = .returned (.bool (kindS xs)) ∧ Below w.heap.size w w' := by
  exact l3Kind_s_walk xs (turnL xs) (kindS xs) ao ca w (Rl.pos h.turn) hx (fun ao ca w => sTurn h ao ca w) (fun ao bo ca cb w => sEqual h h.turn ao bo ca cb w)

set_option maxHeartbeats 4000000 in
theorem l3Kind_a_walk (xs b u v : List Int) (s : Bool) (ao : Option Addr) (ca : Nat) (w : World) (nb : 1 ≤ b.length) (nu : 1 ≤ u.length) (nv : 1 ≤ v.length) (hx : Rd w ao xs)
    (h1 : ∀ ao ca w, Rd w ao xs → Calls Tryz.prog 48 #[.slice ao xs.length ca] w (GaveL w b))
    (h2 : ∀ ao bo ca cb w, Rd w ao xs → Rd w bo b → Calls Tryz.prog 53 #[.slice ao xs.length ca, .slice bo b.length cb] w (GaveL w u))
    (h3 : ∀ w, Calls Tryz.prog 50 #[.int .i64 xs.length] w (GaveL w v))
    (h4 : ∀ ao bo ca cb w, Rd w ao u → Rd w bo v → Calls Tryz.prog 49 #[.slice ao u.length ca, .slice bo v.length cb] w fun e w' => e = .returned (.bool s) ∧ Dn w w') :
    Calls Tryz.prog 20 #[.slice ao xs.length ca, .int .u8 97] w fun e w' => e = .returned (.bool s) ∧ Below w.heap.size w w' := by
  have H := Lib.hid (And.intro h1 (And.intro h2 (And.intro h3 h4)))
  clear h1 h2 h3 h4
  have rxs := hx
  clear hx
  have B0 := Below.refl w.heap.size w
  go_enter Tryz.func20, Tryz.ntmps20
  go_wp2_with fail
  refine (H.out.1 _ _ _ rxs).mono ?_
  rintro e w1 ⟨v, rfl, o1, b1⟩
  obtain ⟨gb, qb, rfl, _, _, rb⟩ := GaveL.form o1 nb
  have rxs := rxs.below b1
  have B0 := B0.trans (b1.mono B0.size)
  clear o1 b1
  go_wp2_with fail
  refine (H.out.2.1 _ _ _ _ _ rxs rb).mono ?_
  rintro e w2 ⟨v, rfl, o1, b1⟩
  obtain ⟨gu, qu, rfl, _, _, ru⟩ := GaveL.form o1 nu
  have rxs := rxs.below b1
  have rb := rb.below b1
  have B0 := B0.trans (b1.mono B0.size)
  clear o1 b1
  go_wp2_with fail
  refine (H.out.2.2.1 _).mono ?_
  rintro e w3 ⟨v, rfl, o1, b1⟩
  obtain ⟨gv, qv, rfl, _, _, rv⟩ := GaveL.form o1 nv
  have rxs := rxs.below b1
  have rb := rb.below b1
  have ru := ru.below b1
  have B0 := B0.trans (b1.mono B0.size)
  clear o1 b1
  go_wp2_with fail
  refine (H.out.2.2.2 _ _ _ _ _ ru rv).mono ?_
  rintro e w4 ⟨rfl, hd⟩
  have B0 := B0.trans (hd.below _)
  go_wp2
  go_ret
  exact ⟨rfl, B0⟩
theorem l3Kind_a {n : Nat} {xs : List Int} (h : Rl n xs) (ao : Option Addr) (ca : Nat) (w : World) (hx : Rd w ao xs) : Calls Tryz.prog 20 #[.slice ao xs.length ca, .int .u8 97] w fun e w' => e = .returned (.bool (kindA xs)) ∧ Below w.heap.size w w' := by
  have hs : Rl n (sameL xs.length) := by rw [h.len]; exact Rl.same h.one h.four
  exact l3Kind_a_walk xs (turnL xs) (bothL xs (turnL xs)) (sameL xs.length) (kindA xs) ao ca w (Rl.pos h.turn) (Rl.pos (Rl.both h h.turn)) (Rl.pos hs) hx (fun ao ca w => sTurn h ao ca w) (fun ao bo ca cb w => sBoth h h.turn ao bo ca cb w) (fun w => sSame h w) (fun ao bo ca cb w => sBelow (Rl.both h h.turn) hs ao bo ca cb w)

set_option maxHeartbeats 4000000 in
theorem l3Kind_t_walk (xs b u : List Int) (s : Bool) (ao : Option Addr) (ca : Nat) (w : World) (nb : 1 ≤ b.length) (nu : 1 ≤ u.length) (hx : Rd w ao xs)
    (h1 : ∀ ao ca w, Rd w ao xs → Calls Tryz.prog 48 #[.slice ao xs.length ca] w (GaveL w b))
    (h2 : ∀ ao bo ca cb w, Rd w ao xs → Rd w bo xs → Calls Tryz.prog 54 #[.slice ao xs.length ca, .slice bo xs.length cb] w (GaveL w u))
    (h3 : ∀ ao bo ca cb w, Rd w ao u → Rd w bo xs → Calls Tryz.prog 49 #[.slice ao u.length ca, .slice bo xs.length cb] w fun e w' => e = .returned (.bool s) ∧ Dn w w') :
    Calls Tryz.prog 20 #[.slice ao xs.length ca, .int .u8 116] w fun e w' => e = .returned (.bool s) ∧ Below w.heap.size w w' := by
  have H := Lib.hid (And.intro h1 (And.intro h2 h3))
  clear h1 h2 h3
  have rxs := hx
  clear hx
  have B0 := Below.refl w.heap.size w
  go_enter Tryz.func20, Tryz.ntmps20
  go_wp2_with fail
  refine (H.out.1 _ _ _ rxs).mono ?_
  rintro e w1 ⟨v, rfl, o1, b1⟩
  obtain ⟨gb, qb, rfl, _, _, rb⟩ := GaveL.form o1 nb
  have rxs := rxs.below b1
  have B0 := B0.trans (b1.mono B0.size)
  clear o1 b1
  go_wp2_with fail
  refine (H.out.2.1 _ _ _ _ _ rxs rxs).mono ?_
  rintro e w2 ⟨v, rfl, o1, b1⟩
  obtain ⟨gu, qu, rfl, _, _, ru⟩ := GaveL.form o1 nu
  have rxs := rxs.below b1
  have rb := rb.below b1
  have B0 := B0.trans (b1.mono B0.size)
  clear o1 b1
  go_wp2_with fail
  refine (H.out.2.2 _ _ _ _ _ ru rxs).mono ?_
  rintro e w3 ⟨rfl, hd⟩
  have B0 := B0.trans (hd.below _)
  go_wp2
  go_ret
  exact ⟨rfl, B0⟩
theorem l3Kind_t {n : Nat} {xs : List Int} (h : Rl n xs) (ao : Option Addr) (ca : Nat) (w : World) (hx : Rd w ao xs) : Calls Tryz.prog 20 #[.slice ao xs.length ca, .int .u8 116] w fun e w' => e = .returned (.bool (kindT xs)) ∧ Below w.heap.size w w' := by
  exact l3Kind_t_walk xs (turnL xs) (compL xs xs) (kindT xs) ao ca w (Rl.pos h.turn) (Rl.pos (Rl.comp h h)) hx (fun ao ca w => sTurn h ao ca w) (fun ao bo ca cb w => sComp h h ao bo ca cb w) (fun ao bo ca cb w => sBelow (Rl.comp h h) h ao bo ca cb w)

set_option maxHeartbeats 4000000 in
theorem l3Kind_c_walk (xs b u : List Int) (s : Bool) (ao : Option Addr) (ca : Nat) (w : World) (nb : 1 ≤ b.length) (nu : 1 ≤ u.length) (hx : Rd w ao xs)
    (h1 : ∀ ao ca w, Rd w ao xs → Calls Tryz.prog 48 #[.slice ao xs.length ca] w (GaveL w b))
    (h2 : ∀ ao ca w, Rd w ao xs → Calls Tryz.prog 51 #[.slice ao xs.length ca] w (GaveL w u))
    (h3 : ∀ ao bo ca cb w, Rd w ao u → Rd w bo b → Calls Tryz.prog 49 #[.slice ao u.length ca, .slice bo b.length cb] w fun e w' => e = .returned (.bool s) ∧ Dn w w') :
    Calls Tryz.prog 20 #[.slice ao xs.length ca, .int .u8 99] w fun e w' => e = .returned (.bool s) ∧ Below w.heap.size w w' := by
  have H := Lib.hid (And.intro h1 (And.intro h2 h3))
  clear h1 h2 h3
  have rxs := hx
  clear hx
  have B0 := Below.refl w.heap.size w
  go_enter Tryz.func20, Tryz.ntmps20
  go_wp2_with fail
  refine (H.out.1 _ _ _ rxs).mono ?_
  rintro e w1 ⟨v, rfl, o1, b1⟩
  obtain ⟨gb, qb, rfl, _, _, rb⟩ := GaveL.form o1 nb
  have rxs := rxs.below b1
  have B0 := B0.trans (b1.mono B0.size)
  clear o1 b1
  go_wp2_with fail
  refine (H.out.2.1 _ _ _ rxs).mono ?_
  rintro e w2 ⟨v, rfl, o1, b1⟩
  obtain ⟨gu, qu, rfl, _, _, ru⟩ := GaveL.form o1 nu
  have rxs := rxs.below b1
  have rb := rb.below b1
  have B0 := B0.trans (b1.mono B0.size)
  clear o1 b1
  go_wp2_with fail
  refine (H.out.2.2 _ _ _ _ _ ru rb).mono ?_
  rintro e w3 ⟨rfl, hd⟩
  have B0 := B0.trans (hd.below _)
  go_wp2
  go_ret
  exact ⟨rfl, B0⟩
theorem l3Kind_c {n : Nat} {xs : List Int} (h : Rl n xs) (ao : Option Addr) (ca : Nat) (w : World) (hx : Rd w ao xs) : Calls Tryz.prog 20 #[.slice ao xs.length ca, .int .u8 99] w fun e w' => e = .returned (.bool (kindC xs)) ∧ Below w.heap.size w w' := by
  exact l3Kind_c_walk xs (turnL xs) (otherL xs) (kindC xs) ao ca w (Rl.pos h.turn) (Rl.pos (Rl.other h)) hx (fun ao ca w => sTurn h ao ca w) (fun ao ca w => sOther h ao ca w) (fun ao bo ca cb w => sBelow (Rl.other h) h.turn ao bo ca cb w)

set_option maxHeartbeats 4000000 in
theorem l3Kind_f_walk (xs b u v : List Int) (s : Bool) (ao : Option Addr) (ca : Nat) (w : World) (nb : 1 ≤ b.length) (nu : 1 ≤ u.length) (nv : 1 ≤ v.length) (hx : Rd w ao xs)
    (h1 : ∀ ao ca w, Rd w ao xs → Calls Tryz.prog 48 #[.slice ao xs.length ca] w (GaveL w b))
    (h2 : ∀ ao bo ca cb w, Rd w ao b → Rd w bo xs → Calls Tryz.prog 54 #[.slice ao b.length ca, .slice bo xs.length cb] w (GaveL w u))
    (h3 : ∀ w, Calls Tryz.prog 50 #[.int .i64 xs.length] w (GaveL w v))
    (h4 : ∀ ao bo ca cb w, Rd w ao u → Rd w bo v → Calls Tryz.prog 49 #[.slice ao u.length ca, .slice bo v.length cb] w fun e w' => e = .returned (.bool s) ∧ Dn w w') :
    Calls Tryz.prog 20 #[.slice ao xs.length ca, .int .u8 102] w fun e w' => e = .returned (.bool s) ∧ Below w.heap.size w w' := by
  have H := Lib.hid (And.intro h1 (And.intro h2 (And.intro h3 h4)))
  clear h1 h2 h3 h4
  have rxs := hx
  clear hx
  have B0 := Below.refl w.heap.size w
  go_enter Tryz.func20, Tryz.ntmps20
  go_wp2_with fail
  refine (H.out.1 _ _ _ rxs).mono ?_
  rintro e w1 ⟨v, rfl, o1, b1⟩
  obtain ⟨gb, qb, rfl, _, _, rb⟩ := GaveL.form o1 nb
  have rxs := rxs.below b1
  have B0 := B0.trans (b1.mono B0.size)
  clear o1 b1
  go_wp2_with fail
  refine (H.out.2.1 _ _ _ _ _ rb rxs).mono ?_
  rintro e w2 ⟨v, rfl, o1, b1⟩
  obtain ⟨gu, qu, rfl, _, _, ru⟩ := GaveL.form o1 nu
  have rxs := rxs.below b1
  have rb := rb.below b1
  have B0 := B0.trans (b1.mono B0.size)
  clear o1 b1
  go_wp2_with fail
  refine (H.out.2.2.1 _).mono ?_
  rintro e w3 ⟨v, rfl, o1, b1⟩
  obtain ⟨gv, qv, rfl, _, _, rv⟩ := GaveL.form o1 nv
  have rxs := rxs.below b1
  have rb := rb.below b1
  have ru := ru.below b1
  have B0 := B0.trans (b1.mono B0.size)
  clear o1 b1
  go_wp2_with fail
  refine (H.out.2.2.2 _ _ _ _ _ ru rv).mono ?_
  rintro e w4 ⟨rfl, hd⟩
  have B0 := B0.trans (hd.below _)
  go_wp2
  go_ret
  exact ⟨rfl, B0⟩
theorem l3Kind_f {n : Nat} {xs : List Int} (h : Rl n xs) (ao : Option Addr) (ca : Nat) (w : World) (hx : Rd w ao xs) : Calls Tryz.prog 20 #[.slice ao xs.length ca, .int .u8 102] w fun e w' => e = .returned (.bool (kindF xs)) ∧ Below w.heap.size w w' := by
  have hs : Rl n (sameL xs.length) := by rw [h.len]; exact Rl.same h.one h.four
  exact l3Kind_f_walk xs (turnL xs) (compL (turnL xs) xs) (sameL xs.length) (kindF xs) ao ca w (Rl.pos h.turn) (Rl.pos (Rl.comp h.turn h)) (Rl.pos hs) hx (fun ao ca w => sTurn h ao ca w) (fun ao bo ca cb w => sComp h.turn h ao bo ca cb w) (fun w => sSame h w) (fun ao bo ca cb w => sBelow (Rl.comp h.turn h) hs ao bo ca cb w)

set_option maxHeartbeats 4000000 in
theorem l3Kind_d_walk (xs b u v : List Int) (s : Bool) (ao : Option Addr) (ca : Nat) (w : World) (nb : 1 ≤ b.length) (nu : 1 ≤ u.length) (nv : 1 ≤ v.length) (hx : Rd w ao xs)
    (h1 : ∀ ao ca w, Rd w ao xs → Calls Tryz.prog 48 #[.slice ao xs.length ca] w (GaveL w b))
    (h2 : ∀ w, Calls Tryz.prog 50 #[.int .i64 xs.length] w (GaveL w u))
    (h3 : ∀ ao bo ca cb w, Rd w ao xs → Rd w bo b → Calls Tryz.prog 54 #[.slice ao xs.length ca, .slice bo b.length cb] w (GaveL w v))
    (h4 : ∀ ao bo ca cb w, Rd w ao u → Rd w bo v → Calls Tryz.prog 49 #[.slice ao u.length ca, .slice bo v.length cb] w fun e w' => e = .returned (.bool s) ∧ Dn w w') :
    Calls Tryz.prog 20 #[.slice ao xs.length ca, .int .u8 100] w fun e w' => e = .returned (.bool s) ∧ Below w.heap.size w w' := by
  have H := Lib.hid (And.intro h1 (And.intro h2 (And.intro h3 h4)))
  clear h1 h2 h3 h4
  have rxs := hx
  clear hx
  have B0 := Below.refl w.heap.size w
  go_enter Tryz.func20, Tryz.ntmps20
  go_wp2_with fail
  refine (H.out.1 _ _ _ rxs).mono ?_
  rintro e w1 ⟨v, rfl, o1, b1⟩
  obtain ⟨gb, qb, rfl, _, _, rb⟩ := GaveL.form o1 nb
  have rxs := rxs.below b1
  have B0 := B0.trans (b1.mono B0.size)
  clear o1 b1
  go_wp2_with fail
  refine (H.out.2.1 _).mono ?_
  rintro e w2 ⟨v, rfl, o1, b1⟩
  obtain ⟨gu, qu, rfl, _, _, ru⟩ := GaveL.form o1 nu
  have rxs := rxs.below b1
  have rb := rb.below b1
  have B0 := B0.trans (b1.mono B0.size)
  clear o1 b1
  go_wp2_with fail
  refine (H.out.2.2.1 _ _ _ _ _ rxs rb).mono ?_
  rintro e w3 ⟨v, rfl, o1, b1⟩
  obtain ⟨gv, qv, rfl, _, _, rv⟩ := GaveL.form o1 nv
  have rxs := rxs.below b1
  have rb := rb.below b1
  have ru := ru.below b1
  have B0 := B0.trans (b1.mono B0.size)
  clear o1 b1
  go_wp2_with fail
  refine (H.out.2.2.2 _ _ _ _ _ ru rv).mono ?_
  rintro e w4 ⟨rfl, hd⟩
  have B0 := B0.trans (hd.below _)
  go_wp2
  go_ret
  exact ⟨rfl, B0⟩
theorem l3Kind_d {n : Nat} {xs : List Int} (h : Rl n xs) (ao : Option Addr) (ca : Nat) (w : World) (hx : Rd w ao xs) : Calls Tryz.prog 20 #[.slice ao xs.length ca, .int .u8 100] w fun e w' => e = .returned (.bool (kindD xs)) ∧ Below w.heap.size w w' := by
  have hs : Rl n (sameL xs.length) := by rw [h.len]; exact Rl.same h.one h.four
  exact l3Kind_d_walk xs (turnL xs) (sameL xs.length) (compL xs (turnL xs)) (kindD xs) ao ca w (Rl.pos h.turn) (Rl.pos hs) (Rl.pos (Rl.comp h h.turn)) hx (fun ao ca w => sTurn h ao ca w) (fun w => sSame h w) (fun ao bo ca cb w => sComp h h.turn ao bo ca cb w) (fun ao bo ca cb w => sBelow hs (Rl.comp h h.turn) ao bo ca cb w)

set_option maxHeartbeats 4000000 in
theorem l3Kind_j_walk (xs b u v : List Int) (s : Bool) (ao : Option Addr) (ca : Nat) (w : World) (nb : 1 ≤ b.length) (nu : 1 ≤ u.length) (nv : 1 ≤ v.length) (hx : Rd w ao xs)
    (h1 : ∀ ao ca w, Rd w ao xs → Calls Tryz.prog 48 #[.slice ao xs.length ca] w (GaveL w b))
    (h2 : ∀ ao bo ca cb w, Rd w ao xs → Rd w bo b → Calls Tryz.prog 54 #[.slice ao xs.length ca, .slice bo b.length cb] w (GaveL w u))
    (h3 : ∀ w, Calls Tryz.prog 50 #[.int .i64 xs.length] w (GaveL w v))
    (h4 : ∀ ao bo ca cb w, Rd w ao u → Rd w bo v → Calls Tryz.prog 49 #[.slice ao u.length ca, .slice bo v.length cb] w fun e w' => e = .returned (.bool s) ∧ Dn w w') :
    Calls Tryz.prog 20 #[.slice ao xs.length ca, .int .u8 106] w fun e w' => e = .returned (.bool s) ∧ Below w.heap.size w w' := by
  have H := Lib.hid (And.intro h1 (And.intro h2 (And.intro h3 h4)))
  clear h1 h2 h3 h4
  have rxs := hx
  clear hx
  have B0 := Below.refl w.heap.size w
  go_enter Tryz.func20, Tryz.ntmps20
  go_wp2_with fail
  refine (H.out.1 _ _ _ rxs).mono ?_
  rintro e w1 ⟨v, rfl, o1, b1⟩
  obtain ⟨gb, qb, rfl, _, _, rb⟩ := GaveL.form o1 nb
  have rxs := rxs.below b1
  have B0 := B0.trans (b1.mono B0.size)
  clear o1 b1
  go_wp2_with fail
  refine (H.out.2.1 _ _ _ _ _ rxs rb).mono ?_
  rintro e w2 ⟨v, rfl, o1, b1⟩
  obtain ⟨gu, qu, rfl, _, _, ru⟩ := GaveL.form o1 nu
  have rxs := rxs.below b1
  have rb := rb.below b1
  have B0 := B0.trans (b1.mono B0.size)
  clear o1 b1
  go_wp2_with fail
  refine (H.out.2.2.1 _).mono ?_
  rintro e w3 ⟨v, rfl, o1, b1⟩
  obtain ⟨gv, qv, rfl, _, _, rv⟩ := GaveL.form o1 nv
  have rxs := rxs.below b1
  have rb := rb.below b1
  have ru := ru.below b1
  have B0 := B0.trans (b1.mono B0.size)
  clear o1 b1
  go_wp2_with fail
  refine (H.out.2.2.2 _ _ _ _ _ ru rv).mono ?_
  rintro e w4 ⟨rfl, hd⟩
  have B0 := B0.trans (hd.below _)
  go_wp2
  go_ret
  exact ⟨rfl, B0⟩
theorem l3Kind_j {n : Nat} {xs : List Int} (h : Rl n xs) (ao : Option Addr) (ca : Nat) (w : World) (hx : Rd w ao xs) : Calls Tryz.prog 20 #[.slice ao xs.length ca, .int .u8 106] w fun e w' => e = .returned (.bool (kindJ xs)) ∧ Below w.heap.size w w' := by
  have hs : Rl n (sameL xs.length) := by rw [h.len]; exact Rl.same h.one h.four
  exact l3Kind_j_walk xs (turnL xs) (compL xs (turnL xs)) (sameL xs.length) (kindJ xs) ao ca w (Rl.pos h.turn) (Rl.pos (Rl.comp h h.turn)) (Rl.pos hs) hx (fun ao ca w => sTurn h ao ca w) (fun ao bo ca cb w => sComp h h.turn ao bo ca cb w) (fun w => sSame h w) (fun ao bo ca cb w => sBelow (Rl.comp h h.turn) hs ao bo ca cb w)

set_option maxHeartbeats 4000000 in
theorem l3Kind_o_walk (xs b u v : List Int) (s : Bool) (ao : Option Addr) (ca : Nat) (w : World) (nb : 1 ≤ b.length) (nu : 1 ≤ u.length) (nv : 1 ≤ v.length) (hx : Rd w ao xs)
    (h1 : ∀ ao ca w, Rd w ao xs → Calls Tryz.prog 48 #[.slice ao xs.length ca] w (GaveL w b))
    (h2 : ∀ w, Calls Tryz.prog 50 #[.int .i64 xs.length] w (GaveL w u))
    (h3 : ∀ ao bo ca cb w, Rd w ao b → Rd w bo xs → Calls Tryz.prog 54 #[.slice ao b.length ca, .slice bo xs.length cb] w (GaveL w v))
    (h4 : ∀ ao bo ca cb w, Rd w ao u → Rd w bo v → Calls Tryz.prog 49 #[.slice ao u.length ca, .slice bo v.length cb] w fun e w' => e = .returned (.bool s) ∧ Dn w w') :
    Calls Tryz.prog 20 #[.slice ao xs.length ca, .int .u8 111] w fun e w' => e = .returned (.bool s) ∧ Below w.heap.size w w' := by
  have H := Lib.hid (And.intro h1 (And.intro h2 (And.intro h3 h4)))
  clear h1 h2 h3 h4
  have rxs := hx
  clear hx
  have B0 := Below.refl w.heap.size w
  go_enter Tryz.func20, Tryz.ntmps20
  go_wp2_with fail
  refine (H.out.1 _ _ _ rxs).mono ?_
  rintro e w1 ⟨v, rfl, o1, b1⟩
  obtain ⟨gb, qb, rfl, _, _, rb⟩ := GaveL.form o1 nb
  have rxs := rxs.below b1
  have B0 := B0.trans (b1.mono B0.size)
  clear o1 b1
  go_wp2_with fail
  refine (H.out.2.1 _).mono ?_
  rintro e w2 ⟨v, rfl, o1, b1⟩
  obtain ⟨gu, qu, rfl, _, _, ru⟩ := GaveL.form o1 nu
  have rxs := rxs.below b1
  have rb := rb.below b1
  have B0 := B0.trans (b1.mono B0.size)
  clear o1 b1
  go_wp2_with fail
  refine (H.out.2.2.1 _ _ _ _ _ rb rxs).mono ?_
  rintro e w3 ⟨v, rfl, o1, b1⟩
  obtain ⟨gv, qv, rfl, _, _, rv⟩ := GaveL.form o1 nv
  have rxs := rxs.below b1
  have rb := rb.below b1
  have ru := ru.below b1
  have B0 := B0.trans (b1.mono B0.size)
  clear o1 b1
  go_wp2_with fail
  refine (H.out.2.2.2 _ _ _ _ _ ru rv).mono ?_
  rintro e w4 ⟨rfl, hd⟩
  have B0 := B0.trans (hd.below _)
  go_wp2
  go_ret
  exact ⟨rfl, B0⟩
theorem l3Kind_o {n : Nat} {xs : List Int} (h : Rl n xs) (ao : Option Addr) (ca : Nat) (w : World) (hx : Rd w ao xs) : Calls Tryz.prog 20 #[.slice ao xs.length ca, .int .u8 111] w fun e w' => e = .returned (.bool (kindO xs)) ∧ Below w.heap.size w w' := by
  have hs : Rl n (sameL xs.length) := by rw [h.len]; exact Rl.same h.one h.four
  exact l3Kind_o_walk xs (turnL xs) (sameL xs.length) (compL (turnL xs) xs) (kindO xs) ao ca w (Rl.pos h.turn) (Rl.pos hs) (Rl.pos (Rl.comp h.turn h)) hx (fun ao ca w => sTurn h ao ca w) (fun w => sSame h w) (fun ao bo ca cb w => sComp h.turn h ao bo ca cb w) (fun ao bo ca cb w => sBelow hs (Rl.comp h.turn h) ao bo ca cb w)

theorem l3Kind_any {n : Nat} {xs : List Int} (h : Rl n xs) (c : Nat) (hc : c = 114 ∨ c = 105 ∨ c = 115 ∨ c = 97 ∨ c = 116 ∨ c = 99 ∨ c = 102 ∨ c = 100 ∨ c = 106 ∨ c = 111) (ao : Option Addr) (ca : Nat) (w : World) (hx : Rd w ao xs) :
    Calls Tryz.prog 20 #[.slice ao xs.length ca, .int .u8 (c : Int)] w fun e w' => e = .returned (.bool (kindB c xs)) ∧ Below w.heap.size w w' := by
  rcases hc with rfl | rfl | rfl | rfl | rfl | rfl | rfl | rfl | rfl | rfl
  · exact l3Kind_r h ao ca w hx
  · exact l3Kind_i h ao ca w hx
  · exact l3Kind_s h ao ca w hx
  · exact l3Kind_a h ao ca w hx
  · exact l3Kind_t h ao ca w hx
  · exact l3Kind_c h ao ca w hx
  · exact l3Kind_f h ao ca w hx
  · exact l3Kind_d h ao ca w hx
  · exact l3Kind_j h ao ca w hx
  · exact l3Kind_o h ao ca w hx
end Go.Proofs.YthdnpcpimggjnaaGreatDoor
