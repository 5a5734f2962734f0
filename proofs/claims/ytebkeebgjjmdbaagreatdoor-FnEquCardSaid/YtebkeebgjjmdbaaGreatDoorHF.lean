/-
  What a text tells of a table: the program's toldBy, passes and isOf.
-/
import Derived.Test.YtebkeebgjjmdbaaGreatDoorHE
import Derived.Lib.Bytealg
namespace Go.Proofs.YtebkeebgjjmdbaaGreatDoor
open Go.RowKit Go.Maps

theorem Tryz.info122 : (Tryz.prog.info? 122).map (fun i => (i.zero, i.size, i.bytes)) = some (some .nilFunc, 1, 8) := by kernel_rfl
/-- the slice at this address holds these values -/
def RdV (w : World) (ao : Option Addr) (vs : List Value) : Prop :=
  ∀ (k : Nat) v, vs[k]? = some v → ∃ b off, ao = some ⟨b, off, none⟩ ∧ b < w.heap.size ∧ w.cell? ⟨b, off + k, none⟩ = some v
theorem RdV.below {w w' : World} {ao : Option Addr} {vs : List Value} (h : RdV w ao vs) (hb : Below w.heap.size w w') : RdV w' ao vs := by
  intro k v hv
  obtain ⟨b, off, h1, h2, h3⟩ := h k v hv
  exact ⟨b, off, h1, Nat.lt_of_lt_of_le h2 hb.size, (hb.cell (p := ⟨b, off + k, none⟩) h2).trans h3⟩
theorem RdV.get {w : World} {ao : Option Addr} {vs : List Value} (h : RdV w ao vs) (k : Nat) (hk : k < vs.length) :
    ∃ b off, ao = some ⟨b, off, none⟩ ∧ b < w.heap.size ∧ w.cell? ⟨b, off + k, none⟩ = some vs[k] := h k vs[k] (List.getElem?_eq_getElem hk)
theorem rdV_of_row {w : World} {base : Nat} {e : TypeId} {v : Value} {vs : List Value} (h : w.ownsRow base e 1 v vs.length vs) : ∃ ao cap, v = .slice ao vs.length cap ∧ RdV w ao vs := by
  rcases h.2 with ⟨h2, h3⟩ | ⟨g, cap, cur, h1, h2, h3⟩
  · have : vs = [] := by simpa using h3
    subst this
    exact ⟨none, 0, h2, fun k v hv => absurd hv (by simp)⟩
  · refine ⟨some ⟨g, 0, none⟩, cap, h1, fun k u hu => ⟨g, 0, rfl, (h.lt g (by rw [h1]; rfl)).2, ?_⟩⟩
    have hk : k < vs.length := (List.getElem?_eq_some_iff.1 hu).1
    subst h1
    have hc := h.cellAt k (by simpa using hk)
    rw [Nat.zero_add]
    rw [hu] at hc
    exact hc

/-! the place of a byte in a string -/
theorem index_mem (l : List UInt8) (c : UInt8) : 0 ≤ Lib.indexByte l c ↔ c ∈ l := by
  induction l with
  | nil => simp [Lib.indexByte]
  | cons b l ih =>
    unfold Lib.indexByte
    by_cases hb : b = c
    · subst hb; simp
    · have h1 : (b == c) = false := by simpa using hb
      have hge := Lib.indexByte_ge l c
      have hne : ¬ c = b := fun e => hb e.symm
      rw [h1]
      by_cases h2 : Lib.indexByte l c = -1
      · have : ¬ c ∈ l := fun e => by have := ih.2 e; omega
        simp [h2, this, hne]
      · have h3 : c ∈ l := ih.1 (by omega)
        have h4 : (Lib.indexByte l c == -1) = false := by simpa using h2
        simp [h4, h3]
        omega
theorem byt_lt (st : ByteArray) (i : Nat) : byt st i < 256 := by
  unfold byt
  split
  · exact st[i].toNat_lt
  · omega
theorem extract_has (st : ByteArray) (i x : Nat) (hi : i ≤ st.size) (hx : x < 256) : decide (0 ≤ Lib.indexByte (st.extract 0 i).data.toList x.toUInt8) = hasTo st x i := by
  rw [Bool.eq_iff_iff, decide_eq_true_iff, index_mem]
  unfold hasTo
  rw [List.any_eq_true]
  have hd : (st.extract 0 i).data.toList = st.data.toList.take i := by rw [Lib.extract_data]; simp
  rw [hd]
  have hsz : st.data.toList.length = st.size := by simp
  constructor
  · intro h
    obtain ⟨j, hj, e⟩ := List.mem_iff_getElem.1 h
    have hj2 : j < i := by rw [List.length_take] at hj; omega
    have hj3 : j < st.size := by omega
    refine ⟨j, List.mem_range.2 hj2, decide_eq_true ?_⟩
    rw [← byt_at st j hj3]
    have e2 : st[j] = x.toUInt8 := by
      rw [← e, List.getElem_take]
      rfl
    rw [e2]
    simpa using hx
  · rintro ⟨j, hj, e⟩
    have hj2 := List.mem_range.1 hj
    have hj3 : j < st.size := by omega
    have e := of_decide_eq_true e
    rw [← byt_at st j hj3] at e
    rw [List.mem_iff_getElem]
    refine ⟨j, by rw [List.length_take]; omega, ?_⟩
    rw [List.getElem_take]
    have e2 : st[j] = x.toUInt8 := by
      apply UInt8.toNat_inj.1
      rw [e]
      exact Eq.symm (by simpa using hx)
    exact e2
set_option maxRecDepth 100000 in
theorem litIndexByte_any (s : ByteArray) (c : Int) (w : World) :
    Calls Tryz.prog 86 #[.string s, .int .u8 c] w fun e w' => e = .returned (.int .i64 (Lib.indexByte s.data.toList c.toNat.toUInt8)) ∧ w' = w := by
  go_enter Tryz.func86, Tryz.ntmps86
  go_wp2
  rw [run_callFunc_extern Tryz.func97 (by kernel_rfl) (by kernel_rfl) (by kernel_rfl) (e := Extern.BytealgIndexByte.indexByte) (by kernel_rfl), Lib.run_indexByteString]
  simp only [Result.andThen]
  rw [Oper.upon_value]
  go_wp2
  go_ret
  exact ⟨rfl, rfl⟩
theorem indexByte_any (s : ByteArray) (c : Int) (w : World) :
    Calls Tryz.prog 76 #[.string s, .int .u8 c] w fun e w' => e = .returned (.int .i64 (Lib.indexByte s.data.toList c.toNat.toUInt8)) ∧ w' = w := by
  go_enter Tryz.func76, Tryz.ntmps76
  go_wp2_with (go_at_call 86; refine (litIndexByte_any _ _ _).mono ?_; rintro e w' ⟨rfl, rfl⟩)
  go_ret
  exact ⟨rfl, rfl⟩

theorem own_keepE {w w' : World} {lo B n sz : Nat} {E : TypeId} {v : Value} {us : List Value} (h : w.ownsRow lo E sz v n us) (hb : Below B w w') (hB : ∀ k, v.ownBlock = some k → k < B) : w'.ownsRow lo E sz v n us := by
  refine ⟨h.1, ?_⟩
  rcases h.2 with h2 | ⟨g, cap, cur, h1, h2, h3, h4⟩
  · exact .inl h2
  · exact .inr ⟨g, cap, cur, h1, h2, (hb.block g (hB g (by rw [h1]; rfl))).trans h3, h4⟩
/-! toldBy -/
theorem own_drewN {w : World} {base : Nat} {e : TypeId} {size : Nat} {v : Value} {n : Nat} {xs : List Value} (hr : w.ownsRow base e size v n xs) (q : Nat) : (w.drewN q).ownsRow base e size v n xs := hr
def toldL (st lt : ByteArray) (F : Nat → Value) : List Value := if textTo st lt st.size then (List.range st.size).map fun i => F (byt st i) else []
theorem told_snoc (st : ByteArray) (F : Nat → Value) (k : Nat) : (List.range (k + 1)).map (fun i => F (byt st i)) = (List.range k).map (fun i => F (byt st i)) ++ [F (byt st k)] := by
  rw [List.range_succ, List.map_append]
  rfl
theorem row_lit0T (e : TypeId) (w : World) : (w.alloc (.cells #[] e)).ownsRow w.heap.size e 1 (.slice (some ⟨w.heap.size, 0, none⟩) 0 0) 0 [] :=
  ⟨rfl, .inr ⟨w.heap.size, 0, #[], rfl, Nat.le_refl _, (MapKept.heap_alloc w _).1, Nat.le_refl _, Nat.zero_le _, rfl, rfl⟩⟩
/-- what a call of toldBy gives -/
def GaveTold (E : TypeId) (w : World) (vs : List Value) (ok : Bool) (e : Ending) (w' : World) : Prop :=
  ∃ v, e = .returned (.tuple #[v, .bool ok]) ∧ w'.ownsRow w.heap.size E 1 v vs.length vs ∧ Below w.heap.size w w'

set_option maxHeartbeats 4000000 in
theorem toldTests_any (st lt : ByteArray) (b : Nat) (F : Nat → Value) (w : World) (hl : st.size ≤ 1048576) (h : FMap 123 w b lt F) (hF : ∀ c, hasTo lt c lt.size = true → ∃ g caps, F c = .func (.func g) #[] caps) :
    Calls Tryz.prog 70 #[.string st, .map (some b)] w (GaveTold 122 w (toldL st lt F) (textTo st lt st.size)) := by
  obtain ⟨i0, hi, hz0, hz1, hz2⟩ := info_parts Tryz.info122
  have h1 := h.below (below_one w (.cells #[] 122)) h.1
  have hbl := h.1
  have HM := Lib.hid h
  have HF := Lib.hid hF
  clear h h1 hF
  go_enter Tryz.func70, Tryz.ntmps70
  go_wp2
  go_loopw [14, 6, 4, 5, 7, 8, 9, 10] (fun i t _ _ _ _ _ _ wr => ∃ k : Nat, k ≤ st.size ∧ i = .int .i64 k ∧ textTo st lt k = true ∧ wr.ownsRow w.heap.size 122 1 t k ((List.range k).map fun i => F (byt st i)) ∧ Below w.heap.size w wr)
    (fun i _ _ _ _ _ _ _ _ => st.size - (intOf i).toNat)
  case atStart => exact ⟨0, Nat.zero_le _, rfl, rfl, row_lit0T _ w, below_one _ _⟩
  case round =>
    obtain ⟨k, hk, rfl, ht, ho, hB⟩ := hrel
    have HT := Lib.hid ht
    clear ht
    by_cases hlt : k < st.size
    · have hb := byt_at st k hlt
      have hxl := byt_lt st k
      obtain ⟨x, hx⟩ : ∃ x, byt st k = x := ⟨_, rfl⟩
      rw [hx] at hb hxl
      have hlk := ((HM.out.below hB hbl).2 wr rfl x hxl).1
      have hi1 : ((k : Nat) : Int) < (st.size : Int) := by omega
      have hin := extract_has st k x hk hxl
      obtain ⟨J, hJ⟩ : ∃ J, Lib.indexByte (st.extract 0 k).data.toList x.toUInt8 = J := ⟨_, rfl⟩
      have hidx : ∀ W, Calls Tryz.prog 76 #[.string (st.extract 0 k), .int .u8 (x : Int)] W fun e w' => e = .returned (.int .i64 J) ∧ w' = W := by
        intro W
        have := indexByte_any (st.extract 0 k) (x : Int) W
        rw [Int.toNat_natCast, hJ] at this
        exact this
      rw [hJ] at hin
      have HI := Lib.hid hidx
      have HX := Lib.hid hx
      have hls : letB st lt k = (hasTo lt x lt.size && !hasTo st x k) := by unfold letB; rw [hx]
      have HL := Lib.hid hls
      have hts := textTo_succ st lt k
      have HS := Lib.hid hts
      clear hidx hx hls hts hJ
      cases hb1 : hasTo lt x lt.size with
      | false =>
        rw [hb1] at hlk HL
        have hno := textTo_no st lt k st.size hlt HL.out
        have HN := Lib.hid hno
        clear hno hb1
        cases hb2 : hasTo st x k with
        | false =>
          rw [hb2] at hin
          clear hb2
          go_wp2
          go_quiet ((go_at_call 76; exact Calls.quiet_of_same (HI.out _)))
          go_wp2
          go_ret2
          refine ⟨.slice none 0 0, by rw [HN.out]; rfl, ?_, below_drewN hB _⟩
          unfold toldL
          rw [HN.out]
          exact World.ownsRow_nil _ _ _ _
        | true =>
          rw [hb2] at hin
          clear hb2
          go_wp2
          go_quiet ((go_at_call 76; exact Calls.quiet_of_same (HI.out _)))
          go_wp2
          go_ret2
          refine ⟨.slice none 0 0, by rw [HN.out]; rfl, ?_, below_drewN hB _⟩
          unfold toldL
          rw [HN.out]
          exact World.ownsRow_nil _ _ _ _
      | true =>
        rw [hb1] at hlk HL
        cases hb2 : hasTo st x k with
        | true =>
          rw [hb2] at hin HL
          have hno := textTo_no st lt k st.size hlt HL.out
          have HN := Lib.hid hno
          clear hno hb1 hb2
          go_wp2
          go_quiet ((go_at_call 76; exact Calls.quiet_of_same (HI.out _)))
          go_wp2
          go_ret2
          refine ⟨.slice none 0 0, by rw [HN.out]; rfl, ?_, below_drewN hB _⟩
          unfold toldL
          rw [HN.out]
          exact World.ownsRow_nil _ _ _ _
        | false =>
          rw [hb2] at hin HL
          obtain ⟨g, caps, hv⟩ := HF.out x hb1
          rw [hv] at hlk
          have HV := Lib.hid hv
          clear hb1 hb2 hv
          go_wp2
          go_quiet ((go_at_call 76; exact Calls.quiet_of_same (HI.out _)))
          have ho2 := own_drewN ho nq
          have hB2 := below_drewN hB nq
          obtain ⟨wq, hwq⟩ : ∃ wq, wr.drewN nq = wq := ⟨_, rfl⟩
          rw [hwq] at ho2 hB2 ⊢
          clear hwq ho hB
          go_wp2_with (at_builtin; refine wpList_append_own _ rfl (.tmp 38) (.tmp 40) 118 rfl w.heap.size 122 i0 .nilFunc 1 8 Tryz.underlying118 hi hz0 hz1 hz2 rfl (by decide) _ _ _ rfl (ho2.alloc _) ⟨wq.heap.size, 0, none⟩ 1 1 [_] rfl rfl (cell_one_new _ _ _) (by simp [Value.oneCell']) (by unfold maxLen; omega) (by omega) (by have := hB2.size; simp; omega) ?_)
          intro v' w1 hown' hgrow _
          have hb' := own_step' ho2 hB2 hB2.size _ hgrow
          clear ho2 hB2 hgrow
          go_wp2
          go_roundw
          case rel =>
            refine ⟨k + 1, by omega, by go_num, by rw [HS.out, HT.out, HL.out]; rfl, ?_, hb'⟩
            rw [told_snoc, HX.out, HV.out]
            exact hown'
          case measure => simp [intOf]; omega
    · obtain rfl : k = st.size := by omega
      go_wp2
      go_ret2
      refine ⟨_, by rw [HT.out]; rfl, ?_, hB⟩
      unfold toldL
      rw [HT.out, if_pos rfl]
      rw [show ((List.range st.size).map fun i => F (byt st i)).length = st.size by simp]
      exact ho
end Go.Proofs.YtebkeebgjjmdbaaGreatDoor
