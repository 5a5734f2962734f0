/-
  The program's changedBy: steps of a text, repeated until nothing changes; its KindLeast and KindMost.
-/
import Derived.Test.YtnmgoeklcmoalaaHH
import Derived.Test.YtnmgoeklcmoalaaHQ
import Derived.Deep.LoopGhost
namespace Go.Proofs.Ytnmgoeklcmoalaa
open Go.RowKit Go.Maps

theorem own_setE {w : World} {base n : Nat} {e : TypeId} {v : Value} {vs : List Value} (h : w.ownsRow base e 1 v n vs) {p : Addr} (hp : p.block < base) (u : Value) : (w.setCell p u).ownsRow base e 1 v n vs := by
  refine ⟨h.1, ?_⟩
  rcases h.2 with h2 | ⟨g, cap, cur, h1, h2, h3, h4⟩
  · exact .inl h2
  · exact .inr ⟨g, cap, cur, h1, h2, by rw [RowKit.Below.heap_setCell _ _ _ _ (by omega)]; exact h3, h4⟩

theorem changed_no (ao : Option Addr) (ca : Nat) (xs : List Int) (st lt : ByteArray) (b : Nat) (F : Nat → Value) (w : World) (hl : xs.length ≤ 1048576) (hl2 : st.size ≤ 1048576) (hx : Rd w ao xs)
    (hF : FMap 81 w b lt F) (hA : ∀ c, hasTo lt c lt.size = true → ∃ g caps, F c = .func (.func g) #[] caps) (hno : (relIn xs && textTo st lt st.size) = false) :
    Calls Try.prog 67 #[.slice ao xs.length ca, .string st, .map (some b)] w (Gave w [] false) := by
  have HA := Lib.hid hA
  clear hA
  cases hp : relIn xs with
  | false =>
    have HP := Lib.hid hp
    clear hp hno
    go_enter Try.func67, Try.ntmps67
    go_wp2_with fail
    refine (relationFrom_no _ _ _ _ hl HP.out hx).mono ?_
    rintro e w1 ⟨rfl, hb⟩
    have hF1 := hF.below (hb.alloc hb.size (.cells #[.int .i64 0, .int .i64 0, .int .i64 0, .int .i64 0, .int .i64 0] 47)) hF.1
    have B1 := hb.alloc hb.size (.cells #[.int .i64 0, .int .i64 0, .int .i64 0, .int .i64 0, .int .i64 0] 47)
    have HF1 := Lib.hid hF1
    clear hF1 hF hx hb
    go_wp2_with fail
    refine (toldSteps_any st lt b F _ hl2 HF1.out HA.out).mono ?_
    rintro e w2 ⟨v, rfl, _, hb2⟩
    go_wp2
    go_ret2
    exact ⟨.slice none 0 0, rfl, World.ownsRow_nil _ _ _ _, B1.trans (hb2.mono B1.size)⟩
  | true =>
    have ht : textTo st lt st.size = false := by rw [hp] at hno; simpa using hno
    have HP := Lib.hid hp
    have HT := Lib.hid ht
    clear hp hno ht
    go_enter Try.func67, Try.ntmps67
    go_wp2_with fail
    refine (relationFrom_yes _ _ _ _ HP.out hx).mono ?_
    rintro e w1 ⟨rfl, hb⟩
    have hF1 := hF.below (hb.alloc hb.size (.cells #[.int .i64 xs.length, .int .i64 (rowAt xs 0), .int .i64 (rowAt xs 1), .int .i64 (rowAt xs 2), .int .i64 (rowAt xs 3)] 47)) hF.1
    have B1 := hb.alloc hb.size (.cells #[.int .i64 xs.length, .int .i64 (rowAt xs 0), .int .i64 (rowAt xs 1), .int .i64 (rowAt xs 2), .int .i64 (rowAt xs 3)] 47)
    have HF1 := Lib.hid hF1
    clear hF1 hF hx hb
    go_wp2_with fail
    refine (toldSteps_any st lt b F _ hl2 HF1.out HA.out).mono ?_
    rw [HT.out]
    rintro e w2 ⟨v, rfl, _, hb2⟩
    go_wp2
    go_ret2
    exact ⟨.slice none 0 0, rfl, World.ownsRow_nil _ _ _ _, B1.trans (hb2.mono B1.size)⟩

set_option maxRecDepth 100000 in
set_option maxHeartbeats 16000000 in
theorem changed_yes {xs : List Int} (ao : Option Addr) (ca : Nat) (st lt : ByteArray) (b : Nat) (F : Nat → Value) (sf : Nat → List Int → List Int) (M : List Int) (Inv : List Int → Prop) (mu : List Int → Nat) (w : World)
    (hp : relIn xs = true) (hl2 : st.size ≤ 1048576) (ht : textTo st lt st.size = true) (hx : Rd w ao xs)
    (hF : FMap 81 w b lt F) (hA : ∀ c, hasTo lt c lt.size = true → TurnsV w (F c) (sf c))
    (hI0 : Inv xs) (hI : ∀ r, Inv r → Rl xs.length r) (hS : ∀ r, Inv r → ∀ k, k ≤ st.size → Inv (roundTo (fun k => sf (byt st k)) r k))
    (hE : ∀ r, Inv r → roundTo (fun k => sf (byt st k)) r st.size = r → r = M) (hm : ∀ r, Inv r → roundTo (fun k => sf (byt st k)) r st.size ≠ r → mu (roundTo (fun k => sf (byt st k)) r st.size) < mu r) (hM : M.length ≤ 4) :
    Calls Try.prog 67 #[.slice ao xs.length ca, .string st, .map (some b)] w (Gave w M true) := by
  have H := Lib.hid (And.intro hI (And.intro hS (And.intro hE hm)))
  have HA := Lib.hid hA
  have HP := Lib.hid hp
  have HT := Lib.hid ht
  have HI0 := Lib.hid hI0
  clear hI hS hE hm hA hp ht hI0
  go_enter Try.func67, Try.ntmps67
  go_wp2_with fail
  refine (relationFrom_yes _ _ _ _ HP.out hx).mono ?_
  rintro e w1 ⟨rfl, hb⟩
  have hF1 := hF.below (hb.alloc hb.size (.cells #[.int .i64 xs.length, .int .i64 (rowAt xs 0), .int .i64 (rowAt xs 1), .int .i64 (rowAt xs 2), .int .i64 (rowAt xs 3)] 47)) hF.1
  have B1 := hb.alloc hb.size (.cells #[.int .i64 xs.length, .int .i64 (rowAt xs 0), .int .i64 (rowAt xs 1), .int .i64 (rowAt xs 2), .int .i64 (rowAt xs 3)] 47)
  have x1 := RelAt.new w1 xs
  have hw1 : w.heap.size ≤ w1.heap.size := hb.size
  have HF1 := Lib.hid hF1
  clear hF1 hF hx hb
  go_wp2_with fail
  refine (toldSteps_any st lt b F _ hl2 HF1.out (fun c hc => by obtain ⟨g, caps, e, _⟩ := HA.out c hc; exact ⟨g, caps, e⟩)).mono ?_
  rw [HT.out]
  rintro e w2 ⟨v, rfl, ho, hb2⟩
  have x2 := x1.below hb2 x1.lt
  have B2 := B1.trans (hb2.mono B1.size)
  rw [World.size_alloc] at ho
  have hlen : (toldL st lt F).length = st.size := toldL_len HT.out
  obtain ⟨ao2, cap2, rfl, _⟩ := rdV_of_row ho
  rw [hlen] at ho ⊢
  have hget : ∀ k, k < st.size → (toldL st lt F)[k]? = some (F (byt st k)) := fun k hk => by
    have hk2 : k < (toldL st lt F).length := by rw [hlen]; exact hk
    have e := List.getElem?_eq_getElem hk2
    rw [e, (toldL_get HT.out e).2]
  have HG := Lib.hid (And.intro hlen hget)
  clear hlen hget x1 B1 hb2 HF1
  go_wp2
  go_loopg [12, 14, 35] (mu xs) (fun gk _ _ _ wr => ∃ r, Inv r ∧ mu r ≤ gk ∧ RelAt wr w1.heap.size r ∧ wr.ownsRow (w1.heap.size + 1) 107 1 (.slice ao2 st.size cap2) st.size (toldL st lt F) ∧ Below w.heap.size w wr)
  case atStart => exact ⟨xs, HI0.out, Nat.le_refl _, x2, ho, B2⟩
  case round =>
    clear x2 ho B2
    obtain ⟨r, hir, hmr, xr, ho, hB⟩ := hrel
    obtain ⟨wo, rfl⟩ : ∃ wo : World, wo = wr := ⟨_, rfl⟩
    have HR := Lib.hid (And.intro hir hmr)
    clear hir hmr
    have xr1 := xr.alloc (.cells #[.int .i64 r.length, .int .i64 (rowAt r 0), .int .i64 (rowAt r 1), .int .i64 (rowAt r 2), .int .i64 (rowAt r 3)] 47)
    have yr1 := RelAt.new wo r
    have ho1 := ho.alloc (.cells #[.int .i64 r.length, .int .i64 (rowAt r 0), .int .i64 (rowAt r 1), .int .i64 (rowAt r 2), .int .i64 (rowAt r 3)] 47)
    have B1 := hB.alloc hB.size (.cells #[.int .i64 r.length, .int .i64 (rowAt r 0), .int .i64 (rowAt r 1), .int .i64 (rowAt r 2), .int .i64 (rowAt r 3)] 47)
    have hrb : w1.heap.size < wo.heap.size := xr.lt
    have hwo : w.heap.size ≤ wo.heap.size := hB.size
    have p0 := xr.cell0
    have p1 := xr.cell1
    have p2 := xr.cell2
    have p3 := xr.cell3
    have p4 := xr.cell4
    clear xr ho hB
    go_wp2
    clear p0 p1 p2 p3 p4
    go_loopw [35, 14] (fun i _ W => ∃ k : Nat, k ≤ st.size ∧ i = .int .i64 k ∧ RelAt W w1.heap.size (roundTo (fun k => sf (byt st k)) r k) ∧ RelAt W wo.heap.size r ∧ W.ownsRow (w1.heap.size + 1) 107 1 (.slice ao2 st.size cap2) st.size (toldL st lt F) ∧ Below w.heap.size w W)
      (fun i _ _ => st.size - (intOf i).toNat)
    case atStart => exact ⟨0, Nat.zero_le _, rfl, xr1, yr1, ho1, B1⟩
    case round =>
      clear xr1 yr1 ho1 B1
      obtain ⟨k, hk, rfl, xr, yr, ho, hB⟩ := hrel
      have hc := H.out.1 _ (H.out.2.1 r HR.out.1 k hk)
      obtain ⟨C, hC⟩ : ∃ C, roundTo (fun k => sf (byt st k)) r k = C := ⟨_, rfl⟩
      rw [hC] at xr hc
      have HC := Lib.hid (And.intro hC hc)
      clear hC hc
      by_cases hlt : k < st.size
      · have hval := HG.out.2 k hlt
        obtain ⟨g, caps, hvk, hcf, hcall⟩ := HA.out _ (letters_of HT.out k hlt)
        obtain ⟨ao3, cap3, he, hrd⟩ := rdV_of_row (HG.out.1 ▸ ho)
        rw [HG.out.1] at he
        cases he
        obtain ⟨bb0, off0, rfl, hbl0, hc0⟩ := hrd k _ hval
        rw [hvk] at hc0
        have hcl := Lib.hid (hcall C wr HC.out.2.self' hB)
        have hnext : roundTo (fun k => sf (byt st k)) r (k + 1) = sf (byt st k) C := by rw [← HC.out.1]; rfl
        obtain ⟨D, hD⟩ : ∃ D, sf (byt st k) C = D := ⟨_, rfl⟩
        rw [hD] at hcl hnext
        have HN := Lib.hid hnext
        have hi1 : ((k : Nat) : Int) < (st.size : Int) := by omega
        have p0 := xr.cell0
        have p1 := xr.cell1
        have p2 := xr.cell2
        have p3 := xr.cell3
        have p4 := xr.cell4
        have hrbW := xr.lt
        clear hval hvk hcall hrd hnext hD
        go_wp2_with fail
        refine hcl.out.mono ?_
        rintro e w5 ⟨rfl, hb5⟩
        have x5 := xr.below hb5 xr.lt
        have y5 := yr.below hb5 yr.lt
        have o5 := own_keepE ho hb5 (fun q hq => (ho.lt q hq).2)
        have B5 := hB.trans (hb5.mono hB.size)
        have q0 := x5.cell0
        have q1 := x5.cell1
        have q2 := x5.cell2
        have q3 := x5.cell3
        have q4 := x5.cell4
        have f0 := x5.free 0
        have f1 := x5.free 1
        have f2 := x5.free 2
        have f3 := x5.free 3
        have f4 := x5.free 4
        have hput := x5.put D
        have hyo := fun (W : World) (j : Nat) (u : Value) (h : RelAt W wo.heap.size r) => h.other (p := ⟨w1.heap.size, j, none⟩) (Nat.ne_of_gt hrb) u
        have hoo := fun (W : World) (j : Nat) (u : Value) (h : W.ownsRow (w1.heap.size + 1) 107 1 (.slice (some ⟨bb0, off0, none⟩) st.size cap2) st.size (toldL st lt F)) => own_setE h (p := ⟨w1.heap.size, j, none⟩) (Nat.lt_succ_self _) u
        have bc := fun (W : World) (j : Nat) (u : Value) (h : Below w.heap.size w W) => h.setCell (p := ⟨w1.heap.size, j, none⟩) hw1 u
        have HPT := Lib.hid hput
        clear hput p0 p1 p2 p3 p4 hc0 hb5 xr yr ho hB hcl
        go_wp2
        go_roundw
        case rel =>
          refine ⟨k + 1, by omega, by go_num, ?_, hyo _ _ _ (hyo _ _ _ (hyo _ _ _ (hyo _ _ _ (hyo _ _ _ y5)))), hoo _ _ _ (hoo _ _ _ (hoo _ _ _ (hoo _ _ _ (hoo _ _ _ o5)))), bc _ _ _ (bc _ _ _ (bc _ _ _ (bc _ _ _ (bc _ _ _ B5))))⟩
          rw [HN.out]
          exact HPT.out
        case measure => simp [intOf]; omega
      · obtain rfl : k = st.size := by omega
        have hr := H.out.1 r HR.out.1
        have hfin := H.out.2.2.1 r HR.out.1
        have hdec := H.out.2.2.2 r HR.out.1
        have hinv := H.out.2.1 r HR.out.1 st.size (Nat.le_refl _)
        rw [HC.out.1] at hfin hdec hinv
        have heq := rows_eq HC.out.2 hr
        have en : ((C.length : Int) == (r.length : Int)) = true := by rw [HC.out.2.len, hr.len]; simp
        cases hq : decide (C = r) with
        | true =>
          rw [hq] at heq
          have hE2 : ∀ w, Sem.run Try.prog (Op.equalIn 9999 45 (.agg #[.int .i64 (rowAt C 0), .int .i64 (rowAt C 1), .int .i64 (rowAt C 2), .int .i64 (rowAt C 3)]) (.agg #[.int .i64 (rowAt r 0), .int .i64 (rowAt r 1), .int .i64 (rowAt r 2), .int .i64 (rowAt r 3)])) w = .ok true w :=
            fun w => (eqRowsD 9997 (rowAt C 0) (rowAt C 1) (rowAt C 2) (rowAt C 3) (rowAt r 0) (rowAt r 1) (rowAt r 2) (rowAt r 3) w).trans (by rw [heq])
          have hCM : C = M := by have e := of_decide_eq_true hq; rw [e]; exact hfin e
          have HQ := Lib.hid hCM
          have p0 := xr.cell0
          have p1 := xr.cell1
          have p2 := xr.cell2
          have p3 := xr.cell3
          have p4 := xr.cell4
          have q0 := yr.cell0
          have q1 := yr.cell1
          have q2 := yr.cell2
          have q3 := yr.cell3
          have q4 := yr.cell4
          clear hq heq hfin hdec hinv hr hCM
          go_wp2_with fail
          refine (list_any C wr (by rw [HQ.out]; exact hM)).mono ?_
          rintro e w5 ⟨u, rfl, hu, hb5⟩
          go_wp2
          go_ret2
          rw [HQ.out] at hu
          exact ⟨u, rfl, own_mono hu hB.size, hB.trans (hb5.mono hB.size)⟩
        | false =>
          rw [hq] at heq
          have hE2 : ∀ w, Sem.run Try.prog (Op.equalIn 9999 45 (.agg #[.int .i64 (rowAt C 0), .int .i64 (rowAt C 1), .int .i64 (rowAt C 2), .int .i64 (rowAt C 3)]) (.agg #[.int .i64 (rowAt r 0), .int .i64 (rowAt r 1), .int .i64 (rowAt r 2), .int .i64 (rowAt r 3)])) w = .ok false w :=
            fun w => (eqRowsD 9997 (rowAt C 0) (rowAt C 1) (rowAt C 2) (rowAt C 3) (rowAt r 0) (rowAt r 1) (rowAt r 2) (rowAt r 3) w).trans (by rw [heq])
          have hlt2 : mu C < mu r := hdec (of_decide_eq_false hq)
          have HQ := Lib.hid (And.intro hlt2 hinv)
          have p0 := xr.cell0
          have p1 := xr.cell1
          have p2 := xr.cell2
          have p3 := xr.cell3
          have p4 := xr.cell4
          have q0 := yr.cell0
          have q1 := yr.cell1
          have q2 := yr.cell2
          have q3 := yr.cell3
          have q4 := yr.cell4
          clear hq heq hfin hdec hinv hr hlt2
          go_wp2
          go_roundg (mu C)
          case measure =>
            have := HQ.out.1
            have := HR.out.2
            omega
          case rel => exact ⟨C, HQ.out.2, Nat.le_refl _, xr, ho, hB⟩

/-! KindLeast and KindMost -/
theorem cf_least1 (args : Array Value) (w : World) : Sem.run Try.prog (callFunc 107 args) w = .ok (.enter 107 args) w := by kernel_rfl
theorem cf_least2 (args : Array Value) (w : World) : Sem.run Try.prog (callFunc 110 args) w = .ok (.enter 110 args) w := by kernel_rfl
theorem cf_least3 (args : Array Value) (w : World) : Sem.run Try.prog (callFunc 111 args) w = .ok (.enter 111 args) w := by kernel_rfl
theorem cf_between (args : Array Value) (w : World) : Sem.run Try.prog (callFunc 101 args) w = .ok (.enter 101 args) w := by kernel_rfl
theorem cf_inBoth (args : Array Value) (w : World) : Sem.run Try.prog (callFunc 102 args) w = .ok (.enter 102 args) w := by kernel_rfl
theorem zero_step (w : World) : Sem.run Try.prog (zeroValue 107) w = .ok .nilFunc w := by kernel_rfl

/-- what a table of steps gives -/
def GaveSteps (lt : ByteArray) (sf : Nat → List Int → List Int) (w : World) (e : Ending) (w' : World) : Prop :=
  ∃ b F, e = .returned (.map (some b)) ∧ FMap 81 w' b lt F ∧ (∀ c, hasTo lt c lt.size = true → TurnsV w' (F c) (sf c)) ∧ Below w.heap.size w w'
set_option maxHeartbeats 4000000 in
theorem least3R {xs : List Int} (h : Rl xs.length xs) (w : World) :
    Calls Try.prog 111 #[relOf xs] w fun e w' => e = .returned (relOf (reachL xs)) ∧ Below w.heap.size w w' := by
  have x1 := (RelAt.new w xs).alloc (.cells #[.int .i64 0, .int .i64 0, .int .i64 0, .int .i64 0, .int .i64 0] 47)
  have z1 := rel_zero (w.alloc (.cells #[.int .i64 xs.length, .int .i64 (rowAt xs 0), .int .i64 (rowAt xs 1), .int .i64 (rowAt xs 2), .int .i64 (rowAt xs 3)] 47))
  have B0 := below_two w (.cells #[.int .i64 xs.length, .int .i64 (rowAt xs 0), .int .i64 (rowAt xs 1), .int .i64 (rowAt xs 2), .int .i64 (rowAt xs 3)] 47) (.cells #[.int .i64 0, .int .i64 0, .int .i64 0, .int .i64 0, .int .i64 0] 47)
  rw [World.size_alloc] at z1
  have H := Lib.hid h
  clear h
  have p0 := x1.cell0
  have p1 := x1.cell1
  have p2 := x1.cell2
  have p3 := x1.cell3
  have p4 := x1.cell4
  go_enter Try.func111, Try.ntmps111
  go_wp2_with fail
  refine (powersOf_any H.out _).mono ?_
  rintro e w2 ⟨v, m, a, hr, rfl, ho, hb2⟩
  obtain ⟨g, cap, rfl, _, _⟩ := pow_form ho (by omega)
  have hm := new_le H.out m hr.new
  have hlt := hr.lt
  have hE := from_reach H.out hr
  have z2 := z1.below hb2 z1.lt
  have B2 := B0.trans (hb2.mono B0.size)
  have HE := Lib.hid hE
  clear x1 z1 p0 p1 p2 p3 p4 hb2 B0 hE hr
  go_wp2_with fail
  refine (from_any H.out hm g cap 1 (by omega) (by omega) _ (own_mono ho (Nat.zero_le _))).mono ?_
  rintro e w3 ⟨rfl, hb3⟩
  have z3 := z2.below hb3 z2.lt
  have B3 := B2.trans (hb3.mono B2.size)
  have q0 := z3.cell0
  have q1 := z3.cell1
  have q2 := z3.cell2
  have q3 := z3.cell3
  have q4 := z3.cell4
  have f0 := z3.free 0
  have f1 := z3.free 1
  have f2 := z3.free 2
  have f3 := z3.free 3
  have f4 := z3.free 4
  clear hb3 B2 z2 ho
  go_wp2
  have bb := fun (W : World) (i : Nat) (v : Value) (h : Below w.heap.size w W) => h.setCell (p := ⟨w.heap.size + 1, i, none⟩) (Nat.le_succ _) v
  exact bodyPost_ret (v := relOf (fromL xs 1 (m - 1))) (by simp [results, Try.results111, go_sem, q0, q1, q2, q3, q4]) rfl ⟨by rw [HE.out], bb _ _ _ (bb _ _ _ (bb _ _ _ (bb _ _ _ (bb _ _ _ B3))))⟩

def leastV : List (Nat × Value) := [(116, fn0 111), (115, fn0 110), (114, fn0 107)]
def mostV : List (Nat × Value) := [(115, fn0 102), (105, fn0 101)]
theorem rst_has : ∀ c : Fin 256, ([116, 115, 114].any fun a => decide (c.val = a)) = hasTo rst c.val rst.size := by decide +kernel
theorem isT_has : ∀ c : Fin 256, ([115, 105].any fun a => decide (c.val = a)) = hasTo isT c.val isT.size := by decide +kernel
theorem rst_in {c : Nat} (h : hasTo rst c rst.size = true) : c = 114 ∨ c = 115 ∨ c = 116 := by
  obtain ⟨i, hi, e⟩ := (hasTo_iff rst c rst.size).1 h
  have hi : i < 3 := hi
  rcases (by omega : i = 0 ∨ i = 1 ∨ i = 2) with rfl | rfl | rfl
  · exact .inl e.symm
  · exact .inr (.inl e.symm)
  · exact .inr (.inr e.symm)
theorem isT_in {c : Nat} (h : hasTo isT c isT.size = true) : c = 105 ∨ c = 115 := by
  obtain ⟨i, hi, e⟩ := (hasTo_iff isT c isT.size).1 h
  have hi : i < 2 := hi
  rcases (by omega : i = 0 ∨ i = 1) with rfl | rfl
  · exact .inl e.symm
  · exact .inr e.symm
theorem least_fin {w w' : World} {b : Nat} {C : List (Nat × Value)} (h : MapW w w' b 3 (putR leastV) C) : GaveSteps rst leastF w (.returned (.map (some b))) w' := by
  refine ⟨b, _, rfl, fmap_of Try.underlying81 zero_step h (fun c hc => ?_), fun c hc => ?_, h.below⟩
  · rw [putR_has]
    exact rst_has ⟨c, hc⟩
  · rw [putR_at]
    rcases rst_in hc with rfl | rfl | rfl
    · exact turns_plain 107 (fun xs => eitherL xs (sameL xs.length)) cf_least1 (fun xs r w => least1R r w)
    · exact turns_plain 110 (fun xs => eitherL xs (turnL xs)) cf_least2 (fun xs r w => least2R r w)
    · exact turns_plain 111 reachL cf_least3 (fun xs r w => least3R r w)
theorem most_fin {w w' : World} {b : Nat} {C : List (Nat × Value)} (h : MapW w w' b 2 (putR mostV) C) : GaveSteps isT mostF w (.returned (.map (some b))) w' := by
  refine ⟨b, _, rfl, fmap_of Try.underlying81 zero_step h (fun c hc => ?_), fun c hc => ?_, h.below⟩
  · rw [putR_has]
    exact isT_has ⟨c, hc⟩
  · rw [putR_at]
    rcases isT_in hc with rfl | rfl
    · exact turns_plain 101 offI cf_between (fun xs r w => offR r w)
    · exact turns_plain 102 twoW cf_inBoth (fun xs r w => twoR r w)
set_option maxHeartbeats 4000000 in
theorem leastSteps_any (w : World) : Calls Try.prog 77 #[] w (GaveSteps rst leastF w) := by
  have hmm := @run_makeMap Try.prog
  have h0 := MapW.made w
  go_enter Try.func77, Try.ntmps77
  go_wp2_with (refine wpList_insert (w0 := w) _ rfl _ _ _ _ 107 rfl Try.underlying81 _ _ _ _ rfl (by assumption) (by omega) _ rfl (by omega) (by omega) _ rfl ?_; intro w1 hm1)
  go_ret
  exact least_fin (by assumption)
set_option maxHeartbeats 4000000 in
theorem mostSteps_any (w : World) : Calls Try.prog 68 #[] w (GaveSteps isT mostF w) := by
  have hmm := @run_makeMap Try.prog
  have h0 := MapW.made w
  go_enter Try.func68, Try.ntmps68
  go_wp2_with (refine wpList_insert (w0 := w) _ rfl _ _ _ _ 107 rfl Try.underlying81 _ _ _ _ rfl (by assumption) (by omega) _ rfl (by omega) (by omega) _ rfl ?_; intro w1 hm1)
  go_ret
  exact most_fin (by assumption)
theorem turnsV_form {w : World} {v : Value} {f : List Int → List Int} (h : TurnsV w v f) : ∃ g caps, v = .func (.func g) #[] caps := by
  obtain ⟨g, caps, e, _⟩ := h
  exact ⟨g, caps, e⟩
set_option maxHeartbeats 4000000 in
theorem implKindLeast_any (ao : Option Addr) (ca : Nat) (xs : List Int) (st : ByteArray) (w : World) (hl : xs.length ≤ 1048576) (hl2 : st.size ≤ 1048576) (hx : Rd w ao xs) :
    Calls Try.prog 37 #[.slice ao xs.length ca, .string st] w (Gave w (ifR (leastB xs st) (leastL xs st)) (leastB xs st)) := by
  go_enter Try.func37, Try.ntmps37
  go_wp2_with fail
  refine (leastSteps_any w).mono ?_
  rintro e w1 ⟨b, F, rfl, hF, hA, hb1⟩
  have hx1 := hx.below hb1
  have hc : Calls Try.prog 67 #[.slice ao xs.length ca, .string st, .map (some b)] w1 (Gave w1 (ifR (leastB xs st) (leastL xs st)) (leastB xs st)) := by
    unfold leastB
    cases hp : relIn xs && textTo st rst st.size with
    | false => exact changed_no ao ca xs st rst b F w1 hl hl2 hx1 hF (fun c hc => turnsV_form (hA c hc)) hp
    | true =>
      rw [Bool.and_eq_true] at hp
      have R := Rl.of hp.1
      refine changed_yes ao ca st rst b F leastF (leastL xs st) (fun r => Rl xs.length r ∧ sub xs.length xs r ∧ sub xs.length r (leastL xs st)) (fun r => 16 - weight r) w1 hp.1 hl2 hp.2 hx1 hF hA
        ⟨R, sub.refl _, least_sub R st⟩ (fun r hr => hr.1) (fun r hr k hk => ?_) (fun r hr e => least_end R hr.1 st hp.2 hr.2.1 hr.2.2 e) (fun r hr hne => ?_) (by rw [(least_rl R st).len]; exact R.four)
      · obtain ⟨a, b, c⟩ := least_step R hr.1 st hp.2 hr.2.1 hr.2.2 k hk
        exact ⟨a, hr.2.1.trans b, c⟩
      · obtain ⟨a, b, _⟩ := least_step R hr.1 st hp.2 hr.2.1 hr.2.2 st.size (Nat.le_refl _)
        have h1 := weight_grow hr.1 a b (fun e => hne e.symm)
        have h2 := weight_le (roundTo (leastG st) r st.size)
        show 16 - weight (roundTo (leastG st) r st.size) < 16 - weight r
        omega
  have HC := Lib.hid hc
  clear hF hA hc hx hx1
  go_wp2_with fail
  refine HC.out.mono ?_
  rintro e w2 ⟨v, rfl, ho, hb2⟩
  go_wp2
  go_ret2
  exact ⟨v, rfl, own_mono ho hb1.size, hb1.trans (hb2.mono hb1.size)⟩
def mostB (xs : List Int) (st : ByteArray) : Bool := relIn xs && textTo st isT st.size
set_option maxHeartbeats 4000000 in
theorem implKindMost_any (ao : Option Addr) (ca : Nat) (xs : List Int) (st : ByteArray) (w : World) (hl : xs.length ≤ 1048576) (hl2 : st.size ≤ 1048576) (hx : Rd w ao xs) :
    Calls Try.prog 32 #[.slice ao xs.length ca, .string st] w (Gave w (ifR (mostB xs st) (mostL xs st)) (mostB xs st)) := by
  go_enter Try.func32, Try.ntmps32
  go_wp2_with fail
  refine (mostSteps_any w).mono ?_
  rintro e w1 ⟨b, F, rfl, hF, hA, hb1⟩
  have hx1 := hx.below hb1
  have hc : Calls Try.prog 67 #[.slice ao xs.length ca, .string st, .map (some b)] w1 (Gave w1 (ifR (mostB xs st) (mostL xs st)) (mostB xs st)) := by
    unfold mostB
    cases hp : relIn xs && textTo st isT st.size with
    | false => exact changed_no ao ca xs st isT b F w1 hl hl2 hx1 hF (fun c hc => turnsV_form (hA c hc)) hp
    | true =>
      rw [Bool.and_eq_true] at hp
      have R := Rl.of hp.1
      refine changed_yes ao ca st isT b F mostF (mostL xs st) (fun r => Rl xs.length r ∧ sub xs.length r xs ∧ sub xs.length (mostL xs st) r) weight w1 hp.1 hl2 hp.2 hx1 hF hA
        ⟨R, sub.refl _, most_sub R st⟩ (fun r hr => hr.1) (fun r hr k hk => ?_) (fun r hr e => most_end R hr.1 st hp.2 hr.2.1 hr.2.2 e) (fun r hr hne => ?_) (by rw [(most_rl R st).len]; exact R.four)
      · obtain ⟨a, b, c⟩ := most_step R hr.1 st hp.2 hr.2.1 hr.2.2 k hk
        exact ⟨a, b.trans hr.2.1, c⟩
      · obtain ⟨a, b, _⟩ := most_step R hr.1 st hp.2 hr.2.1 hr.2.2 st.size (Nat.le_refl _)
        exact weight_grow a hr.1 b hne
  have HC := Lib.hid hc
  clear hF hA hc hx hx1
  go_wp2_with fail
  refine HC.out.mono ?_
  rintro e w2 ⟨v, rfl, ho, hb2⟩
  go_wp2
  go_ret2
  exact ⟨v, rfl, own_mono ho hb1.size, hb1.trans (hb2.mono hb1.size)⟩
end Go.Proofs.Ytnmgoeklcmoalaa
