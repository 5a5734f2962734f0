/-
  Contracts of the program's isPoint and hasEachOnce; and that the model's way of asking whether a list has each point once comes to the same.
-/
import Derived.Test.YthdnpcpimggjnaaGreatDoorHK
import Derived.Test.YthdnpcpimggjnaaGreatDoorHQ
import Derived.Deep.LoopGhost
import Derived.Test.YthdnpcpimggjnaaGreatDoorHB
import Derived.Test.YthdnpcpimggjnaaGreatDoorDD
import Derived.Test.YthdnpcpimggjnaaGreatDoorHG
import Derived.Deep.CutRange
import Derived.Test.YthdnpcpimggjnaaGreatDoorX
namespace Go.Proofs.YthdnpcpimggjnaaGreatDoor
open Go.RowKit Go.Maps

theorem own_setE {w : World} {base n : Nat} {e : TypeId} {v : Value} {vs : List Value} (h : w.ownsRow base e 1 v n vs) {p : Addr} (hp : p.block < base) (u : Value) : (w.setCell p u).ownsRow base e 1 v n vs := by
  refine ⟨h.1, ?_⟩
  rcases h.2 with h2 | ⟨g, cap, cur, h1, h2, h3, h4⟩
  · exact .inl h2
  · exact .inr ⟨g, cap, cur, h1, h2, by rw [RowKit.Below.heap_setCell _ _ _ _ (by omega)]; exact h3, h4⟩

theorem changed_no (ao : Option Addr) (ca : Nat) (xs : List Int) (st lt : ByteArray) (b : Nat) (F : Nat → Value) (w : World) (hl : xs.length ≤ 1048576) (hl2 : st.size ≤ 1048576) (hx : Rd w ao xs)
    (hF : FMap 178 w b lt F) (hA : ∀ c, hasTo lt c lt.size = true → ∃ g caps, F c = .func (.func g) #[] caps) (hno : (relIn xs && textTo st lt st.size) = false) :
    Calls Tryz.prog 213 #[.slice ao xs.length ca, .string st, .map (some b)] w (Gave w [] false) := by
  have HA := Lib.hid hA
  clear hA
  cases hp : relIn xs with
  | false =>
    have HP := Lib.hid hp
    clear hp hno
    go_enter Tryz.func213, Tryz.ntmps213
    go_wp2_with fail
    refine (relationFrom_no _ _ _ _ hl HP.out hx).mono ?_
    rintro e w1 ⟨rfl, hb⟩
    have hF1 := hF.below (hb.alloc hb.size (.cells #[.int .i64 0, .int .i64 0, .int .i64 0, .int .i64 0, .int .i64 0] 36)) hF.1
    have B1 := hb.alloc hb.size (.cells #[.int .i64 0, .int .i64 0, .int .i64 0, .int .i64 0, .int .i64 0] 36)
    have HF1 := Lib.hid hF1
    clear hF1 hF hx hb
    go_wp2_with fail
    refine (toldSteps_any st lt b F _ hl2 HF1.out HA.out).mono ?_
    rintro e w2 ⟨v, rfl, _, hb2⟩
    go_wp2
    go_ret2
    exact ⟨.slice none 0 0, rfl, World.ownsRow_nil _ _ _ _, B1.trans (hb2.mono B1.size)⟩
  | true =>
    have ht : textTo st lt st.size = false := by rw [hp] at hno; simpa using hno
    have HP := Lib.hid hp
    have HT := Lib.hid ht
    clear hp hno ht
    go_enter Tryz.func213, Tryz.ntmps213
    go_wp2_with fail
    refine (relationFrom_yes _ _ _ _ HP.out hx).mono ?_
    rintro e w1 ⟨rfl, hb⟩
    have hF1 := hF.below (hb.alloc hb.size (.cells #[.int .i64 xs.length, .int .i64 (rowAt xs 0), .int .i64 (rowAt xs 1), .int .i64 (rowAt xs 2), .int .i64 (rowAt xs 3)] 36)) hF.1
    have B1 := hb.alloc hb.size (.cells #[.int .i64 xs.length, .int .i64 (rowAt xs 0), .int .i64 (rowAt xs 1), .int .i64 (rowAt xs 2), .int .i64 (rowAt xs 3)] 36)
    have HF1 := Lib.hid hF1
    clear hF1 hF hx hb
    go_wp2_with fail
    refine (toldSteps_any st lt b F _ hl2 HF1.out HA.out).mono ?_
    rw [HT.out]
    rintro e w2 ⟨v, rfl, _, hb2⟩
    go_wp2
    go_ret2
    exact ⟨.slice none 0 0, rfl, World.ownsRow_nil _ _ _ _, B1.trans (hb2.mono B1.size)⟩

set_option maxRecDepth 100000 in
set_option maxHeartbeats 16000000 in
theorem changed_yes {xs : List Int} (ao : Option Addr) (ca : Nat) (st lt : ByteArray) (b : Nat) (F : Nat → Value) (sf : Nat → List Int → List Int) (M : List Int) (Inv : List Int → Prop) (mu : List Int → Nat) (w : World)
    (hp : relIn xs = true) (hl2 : st.size ≤ 1048576) (ht : textTo st lt st.size = true) (hx : Rd w ao xs)
    (hF : FMap 178 w b lt F) (hA : ∀ c, hasTo lt c lt.size = true → TurnsV w (F c) (sf c))
    (hI0 : Inv xs) (hI : ∀ r, Inv r → Rl xs.length r) (hS : ∀ r, Inv r → ∀ k, k ≤ st.size → Inv (roundTo (fun k => sf (byt st k)) r k))
    (hE : ∀ r, Inv r → roundTo (fun k => sf (byt st k)) r st.size = r → r = M) (hm : ∀ r, Inv r → roundTo (fun k => sf (byt st k)) r st.size ≠ r → mu (roundTo (fun k => sf (byt st k)) r st.size) < mu r) (hM : M.length ≤ 4) :
    Calls Tryz.prog 213 #[.slice ao xs.length ca, .string st, .map (some b)] w (Gave w M true) := by
  have H := Lib.hid (And.intro hI (And.intro hS (And.intro hE hm)))
  have HA := Lib.hid hA
  have HP := Lib.hid hp
  have HT := Lib.hid ht
  have HI0 := Lib.hid hI0
  clear hI hS hE hm hA hp ht hI0
  go_enter Tryz.func213, Tryz.ntmps213
  go_wp2_with fail
  refine (relationFrom_yes _ _ _ _ HP.out hx).mono ?_
  rintro e w1 ⟨rfl, hb⟩
  have hF1 := hF.below (hb.alloc hb.size (.cells #[.int .i64 xs.length, .int .i64 (rowAt xs 0), .int .i64 (rowAt xs 1), .int .i64 (rowAt xs 2), .int .i64 (rowAt xs 3)] 36)) hF.1
  have B1 := hb.alloc hb.size (.cells #[.int .i64 xs.length, .int .i64 (rowAt xs 0), .int .i64 (rowAt xs 1), .int .i64 (rowAt xs 2), .int .i64 (rowAt xs 3)] 36)
  have x1 := RelAt.new w1 xs
  have hw1 : w.heap.size ≤ w1.heap.size := hb.size
  have HF1 := Lib.hid hF1
  clear hF1 hF hx hb
  go_wp2_with fail
  refine (toldSteps_any st lt b F _ hl2 HF1.out (fun c hc => by obtain ⟨g, caps, e, _⟩ := HA.out c hc; exact ⟨g, caps, e⟩)).mono ?_
  rw [HT.out]
  rintro e w2 ⟨v, rfl, ho, hb2⟩
  have x2 := x1.below hb2 x1.lt
  have B2 := B1.trans (hb2.mono B1.size)
  rw [World.size_alloc] at ho
  have hlen : (toldL st lt F).length = st.size := toldL_len HT.out
  obtain ⟨ao2, cap2, rfl, _⟩ := rdV_of_row ho
  rw [hlen] at ho ⊢
  have hget : ∀ k, k < st.size → (toldL st lt F)[k]? = some (F (byt st k)) := fun k hk => by
    have hk2 : k < (toldL st lt F).length := by rw [hlen]; exact hk
    have e := List.getElem?_eq_getElem hk2
    rw [e, (toldL_get HT.out e).2]
  have HG := Lib.hid (And.intro hlen hget)
  clear hlen hget x1 B1 hb2 HF1
  go_wp2
  go_loopg [12, 14, 35] (mu xs) (fun gk _ _ _ wr => ∃ r, Inv r ∧ mu r ≤ gk ∧ RelAt wr w1.heap.size r ∧ wr.ownsRow (w1.heap.size + 1) 227 1 (.slice ao2 st.size cap2) st.size (toldL st lt F) ∧ Below w.heap.size w wr)
  case atStart => exact ⟨xs, HI0.out, Nat.le_refl _, x2, ho, B2⟩
  case round =>
    clear x2 ho B2
    obtain ⟨r, hir, hmr, xr, ho, hB⟩ := hrel
    obtain ⟨wo, rfl⟩ : ∃ wo : World, wo = wr := ⟨_, rfl⟩
    have HR := Lib.hid (And.intro hir hmr)
    clear hir hmr
    have xr1 := xr.alloc (.cells #[.int .i64 r.length, .int .i64 (rowAt r 0), .int .i64 (rowAt r 1), .int .i64 (rowAt r 2), .int .i64 (rowAt r 3)] 36)
    have yr1 := RelAt.new wo r
    have ho1 := ho.alloc (.cells #[.int .i64 r.length, .int .i64 (rowAt r 0), .int .i64 (rowAt r 1), .int .i64 (rowAt r 2), .int .i64 (rowAt r 3)] 36)
    have B1 := hB.alloc hB.size (.cells #[.int .i64 r.length, .int .i64 (rowAt r 0), .int .i64 (rowAt r 1), .int .i64 (rowAt r 2), .int .i64 (rowAt r 3)] 36)
    have hrb : w1.heap.size < wo.heap.size := xr.lt
    have hwo : w.heap.size ≤ wo.heap.size := hB.size
    have p0 := xr.cell0
    have p1 := xr.cell1
    have p2 := xr.cell2
    have p3 := xr.cell3
    have p4 := xr.cell4
    clear xr ho hB
    go_wp2
    clear p0 p1 p2 p3 p4
    go_loopw [35, 14] (fun i _ W => ∃ k : Nat, k ≤ st.size ∧ i = .int .i64 k ∧ RelAt W w1.heap.size (roundTo (fun k => sf (byt st k)) r k) ∧ RelAt W wo.heap.size r ∧ W.ownsRow (w1.heap.size + 1) 227 1 (.slice ao2 st.size cap2) st.size (toldL st lt F) ∧ Below w.heap.size w W)
      (fun i _ _ => st.size - (intOf i).toNat)
    case atStart => exact ⟨0, Nat.zero_le _, rfl, xr1, yr1, ho1, B1⟩
    case round =>
      clear xr1 yr1 ho1 B1
      obtain ⟨k, hk, rfl, xr, yr, ho, hB⟩ := hrel
      have hc := H.out.1 _ (H.out.2.1 r HR.out.1 k hk)
      obtain ⟨C, hC⟩ : ∃ C, roundTo (fun k => sf (byt st k)) r k = C := ⟨_, rfl⟩
      rw [hC] at xr hc
      have HC := Lib.hid (And.intro hC hc)
      clear hC hc
      by_cases hlt : k < st.size
      · have hval := HG.out.2 k hlt
        obtain ⟨g, caps, hvk, hcf, hcall⟩ := HA.out _ (letters_of HT.out k hlt)
        obtain ⟨ao3, cap3, he, hrd⟩ := rdV_of_row (HG.out.1 ▸ ho)
        rw [HG.out.1] at he
        cases he
        obtain ⟨bb0, off0, rfl, hbl0, hc0⟩ := hrd k _ hval
        rw [hvk] at hc0
        have hcl := Lib.hid (hcall C wr HC.out.2.self' hB)
        have hnext : roundTo (fun k => sf (byt st k)) r (k + 1) = sf (byt st k) C := by rw [← HC.out.1]; rfl
        obtain ⟨D, hD⟩ : ∃ D, sf (byt st k) C = D := ⟨_, rfl⟩
        rw [hD] at hcl hnext
        have HN := Lib.hid hnext
        have hi1 : ((k : Nat) : Int) < (st.size : Int) := by omega
        have p0 := xr.cell0
        have p1 := xr.cell1
        have p2 := xr.cell2
        have p3 := xr.cell3
        have p4 := xr.cell4
        have hrbW := xr.lt
        clear hval hvk hcall hrd hnext hD
        go_wp2_with fail
        refine hcl.out.mono ?_
        rintro e w5 ⟨rfl, hb5⟩
        have x5 := xr.below hb5 xr.lt
        have y5 := yr.below hb5 yr.lt
        have o5 := own_keepE ho hb5 (fun q hq => (ho.lt q hq).2)
        have B5 := hB.trans (hb5.mono hB.size)
        have q0 := x5.cell0
        have q1 := x5.cell1
        have q2 := x5.cell2
        have q3 := x5.cell3
        have q4 := x5.cell4
        have f0 := x5.free 0
        have f1 := x5.free 1
        have f2 := x5.free 2
        have f3 := x5.free 3
        have f4 := x5.free 4
        have hput := x5.put D
        have hyo := fun (W : World) (j : Nat) (u : Value) (h : RelAt W wo.heap.size r) => h.other (p := ⟨w1.heap.size, j, none⟩) (Nat.ne_of_gt hrb) u
        have hoo := fun (W : World) (j : Nat) (u : Value) (h : W.ownsRow (w1.heap.size + 1) 227 1 (.slice (some ⟨bb0, off0, none⟩) st.size cap2) st.size (toldL st lt F)) => own_setE h (p := ⟨w1.heap.size, j, none⟩) (Nat.lt_succ_self _) u
        have bc := fun (W : World) (j : Nat) (u : Value) (h : Below w.heap.size w W) => h.setCell (p := ⟨w1.heap.size, j, none⟩) hw1 u
        have HPT := Lib.hid hput
        clear hput p0 p1 p2 p3 p4 hc0 hb5 xr yr ho hB hcl
        go_wp2
        go_roundw
        case rel =>
          refine ⟨k + 1, by omega, by go_num, ?_, hyo _ _ _ (hyo _ _ _ (hyo _ _ _ (hyo _ _ _ (hyo _ _ _ y5)))), hoo _ _ _ (hoo _ _ _ (hoo _ _ _ (hoo _ _ _ (hoo _ _ _ o5)))), bc _ _ _ (bc _ _ _ (bc _ _ _ (bc _ _ _ (bc _ _ _ B5))))⟩
          rw [HN.out]
          exact HPT.out
        case measure => simp [intOf]; omega
      · obtain rfl : k = st.size := by omega
        have hr := H.out.1 r HR.out.1
        have hfin := H.out.2.2.1 r HR.out.1
        have hdec := H.out.2.2.2 r HR.out.1
        have hinv := H.out.2.1 r HR.out.1 st.size (Nat.le_refl _)
        rw [HC.out.1] at hfin hdec hinv
        have heq := rows_eq HC.out.2 hr
        have en : ((C.length : Int) == (r.length : Int)) = true := by rw [HC.out.2.len, hr.len]; simp
        cases hq : decide (C = r) with
        | true =>
          rw [hq] at heq
          have hE2 : ∀ w, Sem.run Tryz.prog (Op.equalIn 9999 34 (.agg #[.int .i64 (rowAt C 0), .int .i64 (rowAt C 1), .int .i64 (rowAt C 2), .int .i64 (rowAt C 3)]) (.agg #[.int .i64 (rowAt r 0), .int .i64 (rowAt r 1), .int .i64 (rowAt r 2), .int .i64 (rowAt r 3)])) w = .ok true w :=
            fun w => (eqRowsD 9997 (rowAt C 0) (rowAt C 1) (rowAt C 2) (rowAt C 3) (rowAt r 0) (rowAt r 1) (rowAt r 2) (rowAt r 3) w).trans (by rw [heq])
          have hCM : C = M := by have e := of_decide_eq_true hq; rw [e]; exact hfin e
          have HQ := Lib.hid hCM
          have p0 := xr.cell0
          have p1 := xr.cell1
          have p2 := xr.cell2
          have p3 := xr.cell3
          have p4 := xr.cell4
          have q0 := yr.cell0
          have q1 := yr.cell1
          have q2 := yr.cell2
          have q3 := yr.cell3
          have q4 := yr.cell4
          clear hq heq hfin hdec hinv hr hCM
          go_wp2_with fail
          refine (list_any C wr (by rw [HQ.out]; exact hM)).mono ?_
          rintro e w5 ⟨u, rfl, hu, hb5⟩
          go_wp2
          go_ret2
          rw [HQ.out] at hu
          exact ⟨u, rfl, own_mono hu hB.size, hB.trans (hb5.mono hB.size)⟩
        | false =>
          rw [hq] at heq
          have hE2 : ∀ w, Sem.run Tryz.prog (Op.equalIn 9999 34 (.agg #[.int .i64 (rowAt C 0), .int .i64 (rowAt C 1), .int .i64 (rowAt C 2), .int .i64 (rowAt C 3)]) (.agg #[.int .i64 (rowAt r 0), .int .i64 (rowAt r 1), .int .i64 (rowAt r 2), .int .i64 (rowAt r 3)])) w = .ok false w :=
            fun w => (eqRowsD 9997 (rowAt C 0) (rowAt C 1) (rowAt C 2) (rowAt C 3) (rowAt r 0) (rowAt r 1) (rowAt r 2) (rowAt r 3) w).trans (by rw [heq])
          have hlt2 : mu C < mu r := hdec (of_decide_eq_false hq)
          have HQ := Lib.hid (And.intro hlt2 hinv)
          have p0 := xr.cell0
          have p1 := xr.cell1
          have p2 := xr.cell2
          have p3 := xr.cell3
          have p4 := xr.cell4
          have q0 := yr.cell0
          have q1 := yr.cell1
          have q2 := yr.cell2
          have q3 := yr.cell3
          have q4 := yr.cell4
          clear hq heq hfin hdec hinv hr hlt2
          go_wp2
          go_roundg (mu C)
          case measure =>
            have := HQ.out.1
            have := HR.out.2
            omega
          case rel => exact ⟨C, HQ.out.2, Nat.le_refl _, xr, ho, hB⟩

/-! KindLeast and KindMost -/
theorem cf_least1 (args : Array Value) (w : World) : Sem.run Tryz.prog (callFunc 262 args) w = .ok (.enter 262 args) w := by kernel_rfl
theorem cf_least2 (args : Array Value) (w : World) : Sem.run Tryz.prog (callFunc 263 args) w = .ok (.enter 263 args) w := by kernel_rfl
theorem cf_least3 (args : Array Value) (w : World) : Sem.run Tryz.prog (callFunc 264 args) w = .ok (.enter 264 args) w := by kernel_rfl
theorem cf_between (args : Array Value) (w : World) : Sem.run Tryz.prog (callFunc 109 args) w = .ok (.enter 109 args) w := by kernel_rfl
theorem cf_inBoth (args : Array Value) (w : World) : Sem.run Tryz.prog (callFunc 111 args) w = .ok (.enter 111 args) w := by kernel_rfl
theorem zero_step (w : World) : Sem.run Tryz.prog (zeroValue 227) w = .ok .nilFunc w := by kernel_rfl

/-- what a table of steps gives -/
def GaveSteps (lt : ByteArray) (sf : Nat → List Int → List Int) (w : World) (e : Ending) (w' : World) : Prop :=
  ∃ b F, e = .returned (.map (some b)) ∧ FMap 178 w' b lt F ∧ (∀ c, hasTo lt c lt.size = true → TurnsV w' (F c) (sf c)) ∧ Below w.heap.size w w'
set_option maxHeartbeats 4000000 in
theorem least3R {xs : List Int} (h : Rl xs.length xs) (w : World) :
    Calls Tryz.prog 264 #[relOf xs] w fun e w' => e = .returned (relOf (reachL xs)) ∧ Below w.heap.size w w' := by
  have x1 := (RelAt.new w xs).alloc (.cells #[.int .i64 0, .int .i64 0, .int .i64 0, .int .i64 0, .int .i64 0] 36)
  have z1 := rel_zero (w.alloc (.cells #[.int .i64 xs.length, .int .i64 (rowAt xs 0), .int .i64 (rowAt xs 1), .int .i64 (rowAt xs 2), .int .i64 (rowAt xs 3)] 36))
  have B0 := below_two w (.cells #[.int .i64 xs.length, .int .i64 (rowAt xs 0), .int .i64 (rowAt xs 1), .int .i64 (rowAt xs 2), .int .i64 (rowAt xs 3)] 36) (.cells #[.int .i64 0, .int .i64 0, .int .i64 0, .int .i64 0, .int .i64 0] 36)
  rw [World.size_alloc] at z1
  have H := Lib.hid h
  clear h
  have p0 := x1.cell0
  have p1 := x1.cell1
  have p2 := x1.cell2
  have p3 := x1.cell3
  have p4 := x1.cell4
  go_enter Tryz.func264, Tryz.ntmps264
  go_wp2_with fail
  refine (powersOf_any H.out _).mono ?_
  rintro e w2 ⟨v, m, a, hr, rfl, ho, hb2⟩
  obtain ⟨g, cap, rfl, _, _⟩ := pow_form ho (by omega)
  have hm := new_le H.out m hr.new
  have hlt := hr.lt
  have hE := from_reach H.out hr
  have z2 := z1.below hb2 z1.lt
  have B2 := B0.trans (hb2.mono B0.size)
  have HE := Lib.hid hE
  clear x1 z1 p0 p1 p2 p3 p4 hb2 B0 hE hr
  go_wp2_with fail
  refine (from_any H.out hm g cap 1 (by omega) (by omega) _ (own_mono ho (Nat.zero_le _))).mono ?_
  rintro e w3 ⟨rfl, hb3⟩
  have z3 := z2.below hb3 z2.lt
  have B3 := B2.trans (hb3.mono B2.size)
  have q0 := z3.cell0
  have q1 := z3.cell1
  have q2 := z3.cell2
  have q3 := z3.cell3
  have q4 := z3.cell4
  have f0 := z3.free 0
  have f1 := z3.free 1
  have f2 := z3.free 2
  have f3 := z3.free 3
  have f4 := z3.free 4
  clear hb3 B2 z2 ho
  go_wp2
  have bb := fun (W : World) (i : Nat) (v : Value) (h : Below w.heap.size w W) => h.setCell (p := ⟨w.heap.size + 1, i, none⟩) (Nat.le_succ _) v
  exact bodyPost_ret (v := relOf (fromL xs 1 (m - 1))) (by simp [results, Tryz.results264, go_sem, q0, q1, q2, q3, q4]) rfl ⟨by rw [HE.out], bb _ _ _ (bb _ _ _ (bb _ _ _ (bb _ _ _ (bb _ _ _ B3))))⟩

def leastV : List (Nat × Value) := [(116, fn0 264), (115, fn0 263), (114, fn0 262)]
def mostV : List (Nat × Value) := [(115, fn0 111), (105, fn0 109)]
theorem rst_has : ∀ c : Fin 256, ([116, 115, 114].any fun a => decide (c.val = a)) = hasTo rst c.val rst.size := by decide +kernel
theorem isT_has : ∀ c : Fin 256, ([115, 105].any fun a => decide (c.val = a)) = hasTo isT c.val isT.size := by decide +kernel
theorem rst_in {c : Nat} (h : hasTo rst c rst.size = true) : c = 114 ∨ c = 115 ∨ c = 116 := by
  obtain ⟨i, hi, e⟩ := (hasTo_iff rst c rst.size).1 h
  have hi : i < 3 := hi
  rcases (by omega : i = 0 ∨ i = 1 ∨ i = 2) with rfl | rfl | rfl
  · exact .inl e.symm
  · exact .inr (.inl e.symm)
  · exact .inr (.inr e.symm)
theorem isT_in {c : Nat} (h : hasTo isT c isT.size = true) : c = 105 ∨ c = 115 := by
  obtain ⟨i, hi, e⟩ := (hasTo_iff isT c isT.size).1 h
  have hi : i < 2 := hi
  rcases (by omega : i = 0 ∨ i = 1) with rfl | rfl
  · exact .inl e.symm
  · exact .inr e.symm
theorem least_fin {w w' : World} {b : Nat} {C : List (Nat × Value)} (h : MapW w w' b 3 (putR leastV) C) : GaveSteps rst leastF w (.returned (.map (some b))) w' := by
  refine ⟨b, _, rfl, fmap_of Tryz.underlying178 zero_step h (fun c hc => ?_), fun c hc => ?_, h.below⟩
  · rw [putR_has]
    exact rst_has ⟨c, hc⟩
  · rw [putR_at]
    rcases rst_in hc with rfl | rfl | rfl
    · exact turns_plain 262 (fun xs => eitherL xs (sameL xs.length)) cf_least1 (fun xs r w => least1R r w)
    · exact turns_plain 263 (fun xs => eitherL xs (turnL xs)) cf_least2 (fun xs r w => least2R r w)
    · exact turns_plain 264 reachL cf_least3 (fun xs r w => least3R r w)
theorem most_fin {w w' : World} {b : Nat} {C : List (Nat × Value)} (h : MapW w w' b 2 (putR mostV) C) : GaveSteps isT mostF w (.returned (.map (some b))) w' := by
  refine ⟨b, _, rfl, fmap_of Tryz.underlying178 zero_step h (fun c hc => ?_), fun c hc => ?_, h.below⟩
  · rw [putR_has]
    exact isT_has ⟨c, hc⟩
  · rw [putR_at]
    rcases isT_in hc with rfl | rfl
    · exact turns_plain 109 offI cf_between (fun xs r w => offR r w)
    · exact turns_plain 111 twoW cf_inBoth (fun xs r w => twoR r w)
set_option maxHeartbeats 4000000 in
theorem leastSteps_any (w : World) : Calls Tryz.prog 214 #[] w (GaveSteps rst leastF w) := by
  have hmm := @run_makeMap Tryz.prog
  have h0 := MapW.made w
  go_enter Tryz.func214, Tryz.ntmps214
  go_wp2_with (refine wpList_insert (w0 := w) _ rfl _ _ _ _ 227 rfl Tryz.underlying178 _ _ _ _ rfl (by assumption) (by omega) _ rfl (by omega) (by omega) _ rfl ?_; intro w1 hm1)
  go_ret
  exact least_fin (by assumption)
theorem turnsV_form {w : World} {v : Value} {f : List Int → List Int} (h : TurnsV w v f) : ∃ g caps, v = .func (.func g) #[] caps := by
  obtain ⟨g, caps, e, _⟩ := h
  exact ⟨g, caps, e⟩
set_option maxHeartbeats 4000000 in
theorem implKindLeast_any (ao : Option Addr) (ca : Nat) (xs : List Int) (st : ByteArray) (w : World) (hl : xs.length ≤ 1048576) (hl2 : st.size ≤ 1048576) (hx : Rd w ao xs) :
    Calls Tryz.prog 155 #[.slice ao xs.length ca, .string st] w (Gave w (ifR (leastB xs st) (leastL xs st)) (leastB xs st)) := by
  go_enter Tryz.func155, Tryz.ntmps155
  go_wp2_with fail
  refine (leastSteps_any w).mono ?_
  rintro e w1 ⟨b, F, rfl, hF, hA, hb1⟩
  have hx1 := hx.below hb1
  have hc : Calls Tryz.prog 213 #[.slice ao xs.length ca, .string st, .map (some b)] w1 (Gave w1 (ifR (leastB xs st) (leastL xs st)) (leastB xs st)) := by
    unfold leastB
    cases hp : relIn xs && textTo st rst st.size with
    | false => exact changed_no ao ca xs st rst b F w1 hl hl2 hx1 hF (fun c hc => turnsV_form (hA c hc)) hp
    | true =>
      rw [Bool.and_eq_true] at hp
      have R := Rl.of hp.1
      refine changed_yes ao ca st rst b F leastF (leastL xs st) (fun r => Rl xs.length r ∧ sub xs.length xs r ∧ sub xs.length r (leastL xs st)) (fun r => 16 - weight r) w1 hp.1 hl2 hp.2 hx1 hF hA
        ⟨R, sub.refl _, least_sub R st⟩ (fun r hr => hr.1) (fun r hr k hk => ?_) (fun r hr e => least_end R hr.1 st hp.2 hr.2.1 hr.2.2 e) (fun r hr hne => ?_) (by rw [(least_rl R st).len]; exact R.four)
      · obtain ⟨a, b, c⟩ := least_step R hr.1 st hp.2 hr.2.1 hr.2.2 k hk
        exact ⟨a, hr.2.1.trans b, c⟩
      · obtain ⟨a, b, _⟩ := least_step R hr.1 st hp.2 hr.2.1 hr.2.2 st.size (Nat.le_refl _)
        have h1 := weight_grow hr.1 a b (fun e => hne e.symm)
        have h2 := weight_le (roundTo (leastG st) r st.size)
        show 16 - weight (roundTo (leastG st) r st.size) < 16 - weight r
        omega
  have HC := Lib.hid hc
  clear hF hA hc hx hx1
  go_wp2_with fail
  refine HC.out.mono ?_
  rintro e w2 ⟨v, rfl, ho, hb2⟩
  go_wp2
  go_ret2
  exact ⟨v, rfl, own_mono ho hb1.size, hb1.trans (hb2.mono hb1.size)⟩
def mostB (xs : List Int) (st : ByteArray) : Bool := relIn xs && textTo st isT st.size
end Go.Proofs.YthdnpcpimggjnaaGreatDoor

namespace Go.Proofs.YthdnpcpimggjnaaGreatDoor
open Go.RowKit

/-- pairs of different points that turn, and those that do not -/
def turnsL (xs : List Int) : List Int := twoW (offI xs)
def oneWayL (xs : List Int) : List Int := bothL (offI xs) (otherL (turnsL xs))
theorem Rl.turns {n : Nat} {xs : List Int} (h : Rl n xs) : Rl n (turnsL xs) := h.off.twoW
theorem Rl.oneWay {n : Nat} {xs : List Int} (h : Rl n xs) : Rl n (oneWayL xs) := h.off.both h.turns.other
/-- two lists of the call's own, apart -/
def GaveLL (w : World) (r s : List Int) (ok : Bool) (e : Ending) (w' : World) : Prop :=
  ∃ u v l0 h0 l1 h1, e = .returned (.tuple #[u, v, .bool ok]) ∧ OwnR w' l0 h0 u r ∧ OwnR w' l1 h1 v s ∧ w.heap.size ≤ l0 ∧ w.heap.size ≤ l1 ∧ (h0 ≤ l1 ∨ h1 ≤ l0) ∧ Below w.heap.size w w'
/-- two lists of the call's own -/
def GaveLLS (w : World) (r s : List Int) (ok : Bool) (e : Ending) (w' : World) : Prop :=
  ∃ u v, e = .returned (.tuple #[u, v, .bool ok]) ∧ OwnR w' w.heap.size w'.heap.size u r ∧ OwnR w' w.heap.size w'.heap.size v s ∧ Below w.heap.size w w'

/-! the model's rows -/
def splitX (xs : List Int) : List Int := (List.range xs.length).map fun i => bits .andNot .i64 (bits .and .i64 (rowAt xs i) (rowAt (turnL xs) i)) (pt i)
def splitY (xs : List Int) : List Int := (List.range xs.length).map fun i => bits .andNot .i64 (bits .andNot .i64 (rowAt xs i) (rowAt (turnL xs) i)) (pt i)
theorem rowAt_range (n : Nat) (f : Nat → Int) (i : Nat) (hi : i < n) : rowAt ((List.range n).map f) i = f i := by
  unfold rowAt
  rw [List.getD_eq_getElem?_getD, List.getElem?_map, List.getElem?_range hi]
  rfl
theorem b_an : ∀ n : Fin 5, ∀ x y : Fin 16, ∀ i : Fin n.val, x.val < 2 ^ n.val → ∃ u : Fin 16, bits .andNot .i64 (bits .and .i64 (x.val : Int) (y.val : Int)) (pt i.val) = (u.val : Int) ∧ u.val < 2 ^ n.val ∧ ∀ j : Fin n.val, hasB (u.val : Int) j.val = (hasB (x.val : Int) j.val && hasB (y.val : Int) j.val && !decide (j.val = i.val)) := by decide +kernel
theorem b_ann : ∀ n : Fin 5, ∀ x y : Fin 16, ∀ i : Fin n.val, x.val < 2 ^ n.val → ∃ u : Fin 16, bits .andNot .i64 (bits .andNot .i64 (x.val : Int) (y.val : Int)) (pt i.val) = (u.val : Int) ∧ u.val < 2 ^ n.val ∧ ∀ j : Fin n.val, hasB (u.val : Int) j.val = (hasB (x.val : Int) j.val && !hasB (y.val : Int) j.val && !decide (j.val = i.val)) := by decide +kernel
theorem splitX_row {n : Nat} {xs : List Int} (h : Rl n xs) (i : Nat) (hi : i < n) : ∃ u : Fin 16, rowAt (splitX xs) i = (u.val : Int) ∧ u.val < 2 ^ n ∧ ∀ j, j < n → hasB (u.val : Int) j = (hB xs i j && hB xs j i && !decide (j = i)) := by
  obtain ⟨x, hx, hx2⟩ := h.row i
  obtain ⟨y, hy, _⟩ := h.turn.row i
  obtain ⟨u, h1, h2, h3⟩ := b_an ⟨n, by have := h.four; omega⟩ x y ⟨i, hi⟩ hx2
  refine ⟨u, ?_, h2, fun j hj => ?_⟩
  · unfold splitX
    rw [rowAt_range _ _ _ (by rw [h.len]; exact hi), hx, hy]
    exact h1
  · have e := h3 ⟨j, hj⟩
    have e2 := hB_turn h i j hi hj
    unfold hB at e2 ⊢
    rw [hy] at e2
    rw [hx, ← e2]
    exact e
theorem splitY_row {n : Nat} {xs : List Int} (h : Rl n xs) (i : Nat) (hi : i < n) : ∃ u : Fin 16, rowAt (splitY xs) i = (u.val : Int) ∧ u.val < 2 ^ n ∧ ∀ j, j < n → hasB (u.val : Int) j = (hB xs i j && !hB xs j i && !decide (j = i)) := by
  obtain ⟨x, hx, hx2⟩ := h.row i
  obtain ⟨y, hy, _⟩ := h.turn.row i
  obtain ⟨u, h1, h2, h3⟩ := b_ann ⟨n, by have := h.four; omega⟩ x y ⟨i, hi⟩ hx2
  refine ⟨u, ?_, h2, fun j hj => ?_⟩
  · unfold splitY
    rw [rowAt_range _ _ _ (by rw [h.len]; exact hi), hx, hy]
    exact h1
  · have e := h3 ⟨j, hj⟩
    have e2 := hB_turn h i j hi hj
    unfold hB at e2 ⊢
    rw [hy] at e2
    rw [hx, ← e2]
    exact e
theorem splitX_len (xs : List Int) : (splitX xs).length = xs.length := by unfold splitX; simp
theorem splitY_len (xs : List Int) : (splitY xs).length = xs.length := by unfold splitY; simp
theorem splitX_eq {n : Nat} {xs : List Int} (h : Rl n xs) : splitX xs = turnsL xs := by
  refine (Rl.mk' ((splitX_len xs).trans h.len) h.one h.four fun i hi => ?_).ext h.turns fun i j hi hj => ?_
  · obtain ⟨u, h1, h2, _⟩ := splitX_row h i hi
    exact ⟨u, h1, h2⟩
  · obtain ⟨u, h1, h2, h3⟩ := splitX_row h i hi
    unfold turnsL
    rw [hB_twoW h.off i j hi hj, hB_off h i j hi hj, hB_off h j i hj hi]
    unfold hB at h3 ⊢
    rw [h1, h3 j hj]
    by_cases e : j = i
    · subst e; simp
    · have e2 : ¬ i = j := fun q => e q.symm
      simp [e, e2]
theorem splitY_eq {n : Nat} {xs : List Int} (h : Rl n xs) : splitY xs = oneWayL xs := by
  refine (Rl.mk' ((splitY_len xs).trans h.len) h.one h.four fun i hi => ?_).ext h.oneWay fun i j hi hj => ?_
  · obtain ⟨u, h1, h2, _⟩ := splitY_row h i hi
    exact ⟨u, h1, h2⟩
  · obtain ⟨u, h1, h2, h3⟩ := splitY_row h i hi
    unfold oneWayL
    rw [hB_both h.off h.turns.other i j hi hj, hB_other h.turns i j hi hj]
    unfold turnsL
    rw [hB_twoW h.off i j hi hj, hB_off h i j hi hj, hB_off h j i hj hi]
    unfold hB at h3 ⊢
    rw [h1, h3 j hj]
    by_cases e : j = i
    · subst e; simp
    · have e2 : ¬ i = j := fun q => e q.symm
      simp [e, e2]
      cases hasB (rowAt xs i) j <;> cases hasB (rowAt xs j) i <;> rfl
theorem split_take (f : Nat → Int) (n k : Nat) (hk : k < n) : ((List.range n).map f).take (k + 1) = ((List.range n).map f).take k ++ [f k] := by
  rw [List.take_succ_eq_append_getElem (by simpa using hk)]
  simp

/-! the program's -/
end Go.Proofs.YthdnpcpimggjnaaGreatDoor

namespace Go.Proofs.YthdnpcpimggjnaaGreatDoor
open Go.RowKit

/-! the model's -/
/-- append onto a row of the call's own, as one step of a region that draws; where it lies -/
theorem step_append_own_at {P : Program} {ops : Array Oper} {o : Oper} {a : Act} {w : World} {K : Act → World → Prop} {Q : Exit → Act → World → Prop} {E : Prop}
    (hg : o.guard = none) (s x : Operand) (t : TypeId) (ho : o.op = Op.call { callee := Callee.builtin Builtin.append, args := #[s, x], argTypes := #[t, t] })
    (base : Nat) (e : TypeId) (i : TypeInfo) (z : Value) (size bytes : Nat) (ht : P.underlying t = some (.slice e)) (hi : P.info? e = some i) (hz : i.zero = some z)
    (hsize : i.size = size) (hby : i.bytes = bytes) (hzs : z.cells.size = size) (hsz : 0 < size)
    (v : Value) (n : Nat) (xs : List Value) (hs : a.eval s = v) (hown : w.ownsRow base e size v n xs)
    (ad : Addr) (m c : Nat) (news : List Value) (hx : a.eval x = .slice (some ad) m c) (hl : news.length = m * size) (hnews : ∀ j u, news[j]? = some u → w.cell? (ad.add j) = some u) (h1 : ∀ u ∈ news, u.oneCell' = true)
    (h63 : n + m ≤ maxLen) (hbytes : (n + m) * bytes ≤ 140737488355328) (hbase : base ≤ w.heap.size)
    (h : ∀ v' w', w'.ownsRow base e size v' (n + m) (xs ++ news) → w.grownBy w' v.ownBlock → (v'.ownBlock = v.ownBlock ∨ v'.ownBlock = some w.heap.size) → K (a.put o.dst v') w') :
    if Region.wanted o (yielded ops a.tmps) = true then Oper.wp P o a w K Q else E := by
  have hw : Region.wanted o (yielded ops a.tmps) = true := by simp [Region.wanted, hg]
  rw [if_pos hw]
  obtain ⟨v', w', hr, h2, h3, _, h5⟩ := run_append_own_at (P := P) w base t o.type e i z size bytes ht hi hz hsize hby hzs hsz v n xs hown ad m c news hl hnews h1 h63 hbytes hbase
  unfold Oper.wp execOp
  simp only [ho, resolve, invoke, builtin, Sem.run_bind, Sem.run_pure, Result.andThen_ok, List.map_toArray, List.map_cons, List.map_nil, hs, hx, hr]
  exact h v' w' h2 h3 h5
/-- two rows and a third block, all apart -/
def Apart (u v : Value) (g : Nat) : Prop := (∀ k, u.ownBlock = some k → k ≠ g) ∧ (∀ k, v.ownBlock = some k → k ≠ g) ∧ ∀ k, u.ownBlock = some k → v.ownBlock ≠ some k
theorem Apart.symm {u v : Value} {g : Nat} (h : Apart u v g) : Apart v u g := ⟨h.2.1, h.1, fun k hk e => h.2.2 k e hk⟩
theorem Apart.left {u v u' : Value} {g B : Nat} (h : Apart u v g) (hu : u'.ownBlock = u.ownBlock ∨ u'.ownBlock = some B) (hg : g < B) (hv : ∀ k, v.ownBlock = some k → k < B) : Apart u' v g := by
  rcases hu with e | e
  · exact ⟨fun k hk => h.1 k (e ▸ hk), h.2.1, fun k hk => h.2.2 k (e ▸ hk)⟩
  · refine ⟨fun k hk => ?_, h.2.1, fun k hk e2 => ?_⟩
    · rw [e] at hk
      cases hk
      omega
    · rw [e] at hk
      cases hk
      exact Nat.lt_irrefl _ (hv _ e2)
theorem rd_grown {w w' : World} {g : Nat} {xs : List Int} {row : Option Nat} (h : Rd w (some ⟨g, 0, none⟩) xs) (hg : w.grownBy w' row) (hne : some g ≠ row) : Rd w' (some ⟨g, 0, none⟩) xs := by
  intro k x hx
  obtain ⟨b, off, e, hl, hc⟩ := h k x hx
  cases e
  exact ⟨g, 0, rfl, Nat.lt_of_lt_of_le hl hg.size, (World.cell?_of_block (a := ⟨g, 0 + k, none⟩) (hg.block g hl hne)).trans hc⟩

/-- what an append onto one of two rows leaves of all else -/
theorem keep_apart {w wr w3 : World} {u v u' : Value} {g n m : Nat} {us vs : List Value} {ts : List Int} (o : Obj) (hu : wr.ownsRow w.heap.size 3 1 u n us) (hv : wr.ownsRow w.heap.size 3 1 v m vs) (hap : Apart u v g)
    (hrb : Rd wr (some ⟨g, 0, none⟩) ts) (hgl : g < wr.heap.size) (hB : Below w.heap.size w wr) (hgrow : ((wr.alloc o).drew).grownBy w3 u.ownBlock) (hat : u'.ownBlock = u.ownBlock ∨ u'.ownBlock = some ((wr.alloc o).drew).heap.size) :
    w3.ownsRow w.heap.size 3 1 v m vs ∧ Apart u' v g ∧ Rd w3 (some ⟨g, 0, none⟩) ts ∧ g < w3.heap.size ∧ Below w.heap.size w w3 := by
  have hs : ((wr.alloc o).drew).heap.size = wr.heap.size + 1 := by simp
  refine ⟨?_, hap.left hat (by omega) (fun k hk => by have := (hv.lt k hk).2; omega), ?_, ?_, own_step hu hB hB.size o hgrow⟩
  · refine (hv.alloc o).drew.kept hgrow ?_
    cases hk : v.ownBlock with
    | none => exact .inl rfl
    | some k => exact .inr fun e => hap.2.2 k e.symm hk
  · exact rd_grown (w := (wr.alloc o).drew) (hrb.below ((below_one wr o).drew)) hgrow (fun e => hap.1 g e.symm rfl)
  · have := hgrow.size
    omega
theorem pt_wrapI (k : Nat) (h : k < 4) : IntKind.i64.wrap (2 ^ k) = pt k := by
  rcases (by omega : k = 0 ∨ k = 1 ∨ k = 2 ∨ k = 3) with rfl | rfl | rfl | rfl <;> decide +kernel
theorem split_cells {w w3 : World} {b off g k : Nat} {xs : List Int} {x y : Int} (hB : Below w.heap.size w w3) (hrb : Rd w3 (some ⟨g, 0, none⟩) (turnL xs)) (hx : Rd w (some ⟨b, off, none⟩) xs) (h : xs[k]? = some x ∧ rowAt (turnL xs) k = y ∧ Rl xs.length xs) :
    w3.cell? ⟨b, off + k, none⟩ = some (.int .i64 x) ∧ w3.cell? ⟨g, k, none⟩ = some (.int .i64 y) := by
  obtain ⟨h1, h2, R⟩ := h
  have hk : k < xs.length := (List.getElem?_eq_some_iff.1 h1).1
  constructor
  · obtain ⟨b2, off2, e, _, hc⟩ := (hx.below hB) k x h1
    cases e
    exact hc
  · obtain ⟨b2, off2, e, _, hc⟩ := hrb k y (by rw [rowAt_get (by rw [R.turn.len]; exact hk), h2])
    cases e
    rw [Nat.zero_add] at hc
    exact hc
end Go.Proofs.YthdnpcpimggjnaaGreatDoor

namespace Go.Proofs.YthdnpcpimggjnaaGreatDoor
open Go.RowKit Go.Maps Go.Shelf
attribute [local go_sem] Oper.semAt_some

/-- the point of a set of one point -/
def lowI (x : Int) : Nat := if x = 1 then 0 else if x = 2 then 1 else if x = 4 then 2 else 3
def mapL (xs : List Int) : List Int := xs.map fun x => (lowI x : Int)
def fdT : ByteArray := ⟨#[102, 100]⟩
def isMapB (xs : List Int) : Bool := relIn xs && allK xs fdT
theorem fd_text : textTo fdT risat fdT.size = true := by decide +kernel
theorem fd_all {xs : List Int} : allK xs fdT = (kindF xs && kindD xs) := by
  unfold allK allTo
  show (List.range 2).all (fun i => kindB (byt fdT i) xs) = _
  rw [show List.range 2 = [0, 1] from rfl, List.all_cons, List.all_cons, List.all_nil, Bool.and_true]
  rfl
theorem mapL_len (xs : List Int) : (mapL xs).length = xs.length := List.length_map _
/-- rows of one point -/
theorem one_row : ∀ n : Fin 5, ∀ z : Fin 16, z.val < 2 ^ n.val → (∀ j k : Fin n.val, hasB (z.val : Int) j.val = true → hasB (z.val : Int) k.val = true → k = j) → (∃ j : Fin n.val, hasB (z.val : Int) j.val = true) → (z.val : Int) = pt (lowI (z.val : Int)) ∧ lowI (z.val : Int) < n.val := by decide +kernel
theorem map_row {xs : List Int} (h : isMapB xs = true) (i : Nat) (hi : i < xs.length) : rowAt xs i = pt (lowI (rowAt xs i)) ∧ lowI (rowAt xs i) < xs.length := by
  unfold isMapB at h
  rw [Bool.and_eq_true, fd_all, Bool.and_eq_true] at h
  obtain ⟨hp, hf, hd⟩ := h
  have R := Rl.of hp
  obtain ⟨y, hy, hy2⟩ := R.row i
  rw [← isF R] at hf
  rw [← isD R] at hd
  have a := (most_iff R).1 hf i
  have b := (least_iff R).1 hd i hi
  rw [hy]
  refine one_row ⟨xs.length, by have := R.four; omega⟩ y hy2 (fun j k h1 h2 => ?_) ?_
  · exact Fin.ext (a j.val k.val hi j.isLt k.isLt (by unfold hB; rw [hy]; exact h1) (by unfold hB; rw [hy]; exact h2))
  · obtain ⟨j, hj, hb⟩ := b
    unfold hB at hb
    rw [hy] at hb
    exact ⟨⟨j, hj⟩, hb⟩
theorem map_take (xs : List Int) (k : Nat) (x : Int) (h : xs[k]? = some x) : (mapL xs).take (k + 1) = (mapL xs).take k ++ [(lowI x : Int)] := by
  unfold mapL
  rw [← List.map_take, ← List.map_take, List.take_add_one, h]
  simp

/-! the program's -/
theorem boxed_of {W W' : World} {B : Nat} {t : TypeId} {v : Value} (h : Boxed W B t v) (e : W'.heap[B]? = W.heap[B]?) : Boxed W' B t v := e.trans h
def mapAcc (n : Nat) (pre : List (Fin n × Fin n)) : List Int := pre.foldl (fun ps p => ps.set p.1.val (p.2.val : Int)) (List.replicate n 0)
theorem mapAcc_snoc (n : Nat) (pre : List (Fin n × Fin n)) (p : Fin n × Fin n) : mapAcc n (pre ++ [p]) = (mapAcc n pre).set p.1.val (p.2.val : Int) := by
  unfold mapAcc
  rw [List.foldl_append]
  rfl
theorem mapAcc_len (n : Nat) (pre : List (Fin n × Fin n)) : (mapAcc n pre).length = n := by
  have h : ∀ (l : List (Fin n × Fin n)) (zs : List Int), (l.foldl (fun ps p => ps.set p.1.val (p.2.val : Int)) zs).length = zs.length := by
    intro l
    induction l with
    | nil => intro zs; rfl
    | cons p r ih => intro zs; rw [List.foldl_cons, ih, List.length_set]
  unfold mapAcc
  rw [h]
  simp
theorem mapAcc_at (n : Nat) (f : Nat → Nat) (pre : List (Fin n × Fin n)) (hf : ∀ p, p ∈ pre → p.2.val = f p.1.val) : (mapAcc n pre).length = n ∧ ∀ i : Nat, (∃ p, p ∈ pre ∧ p.1.val = i) → (mapAcc n pre)[i]? = some ((f i : Nat) : Int) := by
  have key : ∀ (l : List (Fin n × Fin n)) (zs : List Int), zs.length = n → (∀ p, p ∈ l → p.2.val = f p.1.val) →
      (l.foldl (fun ps p => ps.set p.1.val (p.2.val : Int)) zs).length = n ∧
      ∀ i : Nat, ((∃ p, p ∈ l ∧ p.1.val = i) ∨ zs[i]? = some ((f i : Nat) : Int)) → (l.foldl (fun ps p => ps.set p.1.val (p.2.val : Int)) zs)[i]? = some ((f i : Nat) : Int) := by
    intro l
    induction l with
    | nil =>
      intro zs hz _
      refine ⟨hz, fun i h => ?_⟩
      rcases h with ⟨p, hp, _⟩ | h
      · cases hp
      · exact h
    | cons q r ih =>
      intro zs hz hq
      rw [List.foldl_cons]
      obtain ⟨a, b⟩ := ih (zs.set q.1.val (q.2.val : Int)) (by rw [List.length_set, hz]) (fun p hp => hq p (List.mem_cons_of_mem _ hp))
      refine ⟨a, fun i h => b i ?_⟩
      by_cases hi : q.1.val = i
      · right
        subst hi
        rw [List.getElem?_set, if_pos rfl, if_pos (by rw [hz]; exact q.1.isLt), hq q List.mem_cons_self]
      · rcases h with ⟨p, hp, e⟩ | h
        · rcases List.mem_cons.1 hp with rfl | hp
          · exact absurd e hi
          · exact .inl ⟨p, hp, e⟩
        · right
          rw [List.getElem?_set_ne hi]
          exact h
  obtain ⟨a, b⟩ := key pre (List.replicate n 0) List.length_replicate hf
  exact ⟨a, fun i h => b i (.inl h)⟩
theorem mapAcc_eq {xs : List Int} (h : isMapB xs = true) : mapAcc xs.length (pairsOf xs) = mapL xs := by
  have hp : relIn xs = true := by unfold isMapB at h; rw [Bool.and_eq_true] at h; exact h.1
  have R := Rl.of hp
  have hf : ∀ p, p ∈ pairsOf xs → p.2.val = lowI (rowAt xs p.1.val) := by
    intro p hpp
    have hb := (mem_pairs R.four p).1 hpp
    obtain ⟨h1, h2⟩ := map_row h p.1.val p.1.isLt
    unfold hB at hb
    rw [h1] at hb
    have e := b_pt ⟨lowI (rowAt xs p.1.val), by have := R.four; omega⟩ ⟨p.2.val, by have := R.four; have := p.2.isLt; omega⟩
    dsimp only at e
    rw [e] at hb
    exact of_decide_eq_true hb
  obtain ⟨a, b⟩ := mapAcc_at xs.length (fun i => lowI (rowAt xs i)) (pairsOf xs) hf
  apply List.ext_getElem?
  intro i
  by_cases hi : i < xs.length
  · obtain ⟨h1, h2⟩ := map_row h i hi
    have hmem : ((⟨i, hi⟩, ⟨lowI (rowAt xs i), h2⟩) : Fin xs.length × Fin xs.length) ∈ pairsOf xs := by
      rw [mem_pairs R.four]
      unfold hB
      show hasB (rowAt xs i) (lowI (rowAt xs i)) = true
      have h4 := R.four
      have e := b_pt ⟨lowI (rowAt xs i), by omega⟩ ⟨lowI (rowAt xs i), by omega⟩
      dsimp only at e
      rw [← h1] at e
      rw [e]
      exact decide_eq_true rfl
    rw [b i ⟨_, hmem, rfl⟩]
    unfold mapL
    rw [List.getElem?_map, rowAt_get hi]
    rfl
  · rw [List.getElem?_eq_none (by omega), List.getElem?_eq_none (by rw [mapL_len]; omega)]

end Go.Proofs.YthdnpcpimggjnaaGreatDoor

namespace Go.Proofs.YthdnpcpimggjnaaGreatDoor
open Go.RowKit

/-- a point of n -/
def ptB (i : Int) (n : Nat) : Bool := decide (0 ≤ i ∧ i < n)

theorem isPoint_any (i : Int) (n : Nat) (w : World) :
    Calls Tryz.prog 207 #[.int .i64 i, .int .i64 n] w fun e w' => e = .returned (.bool (ptB i n)) ∧ w = w' := by
  unfold ptB
  go_enter Tryz.func207, Tryz.ntmps207
  by_cases h : 0 ≤ i
  · by_cases h2 : i < n
    · go_wp2
      go_ret
      exact ⟨by simp [h, h2], rfl⟩
    · go_wp2
      go_ret
      exact ⟨by simp [h2], rfl⟩
  · go_wp2
    go_ret
    exact ⟨by simp; omega, rfl⟩

/-- each point once, as the program asks it -/
def eachGo (n : Nat) : Int → List Int → Bool
  | _, [] => true
  | t, i :: r => ptB i n && !(hasB t i.toNat) && eachGo n (bits .or .i64 t (pt i.toNat)) r
def eachB (n : Nat) (ps : List Int) : Bool := decide (ps.length = n) && eachGo n 0 ps
/-- .. and as the model asks it -/
def seenGo (n : Nat) : Int → List Int → Option Int
  | s, [] => some s
  | s, i :: r => if ptB i n then seenGo n (bits .or .i64 s (pt i.toNat)) r else none
def seenB (n : Nat) (ps : List Int) : Bool := decide (ps.length = n) && (seenGo n 0 ps == some (2 ^ n - 1))

theorem eachGo_in (n : Nat) : ∀ (ps : List Int) (t : Int), eachGo n t ps = true → ∀ i ∈ ps, ptB i n = true := by
  intro ps
  induction ps with
  | nil => intro t _ i hi; cases hi
  | cons p r ih =>
    intro t h i hi
    simp only [eachGo, Bool.and_eq_true] at h
    rcases List.mem_cons.1 hi with rfl | hi
    · exact h.1.1
    · exact ih _ h.2 i hi
theorem seenGo_in (n : Nat) : ∀ (ps : List Int) (t s : Int), seenGo n t ps = some s → ∀ i ∈ ps, ptB i n = true := by
  intro ps
  induction ps with
  | nil => intro t s _ i hi; cases hi
  | cons p r ih =>
    intro t s h i hi
    unfold seenGo at h
    by_cases hp : ptB p n = true
    · rw [if_pos hp] at h
      rcases List.mem_cons.1 hi with rfl | hi
      · exact hp
      · exact ih _ _ h i hi
    · rw [if_neg hp] at h
      cases h

theorem each1 : ∀ a : Fin 1, eachB 1 [(a.val : Int)] = seenB 1 [(a.val : Int)] := by decide +kernel
theorem each2 : ∀ a b : Fin 2, eachB 2 [(a.val : Int), (b.val : Int)] = seenB 2 [(a.val : Int), (b.val : Int)] := by decide +kernel
theorem each3 : ∀ a b c : Fin 3, eachB 3 [(a.val : Int), (b.val : Int), (c.val : Int)] = seenB 3 [(a.val : Int), (b.val : Int), (c.val : Int)] := by decide +kernel
theorem each4 : ∀ a b c d : Fin 4, eachB 4 [(a.val : Int), (b.val : Int), (c.val : Int), (d.val : Int)] = seenB 4 [(a.val : Int), (b.val : Int), (c.val : Int), (d.val : Int)] := by decide +kernel

theorem ptB_fin {i : Int} {n : Nat} (h : ptB i n = true) : ∃ a : Fin n, i = (a.val : Int) := by
  have := of_decide_eq_true h
  exact ⟨⟨i.toNat, by omega⟩, by simp; omega⟩

theorem each_same (n : Nat) (h1 : 1 ≤ n) (h4 : n ≤ 4) (ps : List Int) : eachB n ps = seenB n ps := by
  by_cases hl : ps.length = n
  · by_cases hin : ∀ i ∈ ps, ptB i n = true
    · rcases (by omega : n = 1 ∨ n = 2 ∨ n = 3 ∨ n = 4) with rfl | rfl | rfl | rfl
      · match ps, hl with
        | [a], _ =>
          obtain ⟨a, rfl⟩ := ptB_fin (hin a (by simp))
          exact each1 a
      · match ps, hl with
        | [a, b], _ =>
          obtain ⟨a, rfl⟩ := ptB_fin (hin a (by simp))
          obtain ⟨b, rfl⟩ := ptB_fin (hin b (by simp))
          exact each2 a b
      · match ps, hl with
        | [a, b, c], _ =>
          obtain ⟨a, rfl⟩ := ptB_fin (hin a (by simp))
          obtain ⟨b, rfl⟩ := ptB_fin (hin b (by simp))
          obtain ⟨c, rfl⟩ := ptB_fin (hin c (by simp))
          exact each3 a b c
      · match ps, hl with
        | [a, b, c, d], _ =>
          obtain ⟨a, rfl⟩ := ptB_fin (hin a (by simp))
          obtain ⟨b, rfl⟩ := ptB_fin (hin b (by simp))
          obtain ⟨c, rfl⟩ := ptB_fin (hin c (by simp))
          obtain ⟨d, rfl⟩ := ptB_fin (hin d (by simp))
          exact each4 a b c d
    · have e1 : eachB n ps = false := by
        cases h : eachGo n 0 ps with
        | false => simp [eachB, h]
        | true => exact absurd (eachGo_in n ps 0 h) hin
      have e2 : seenB n ps = false := by
        cases h : seenGo n 0 ps with
        | none => simp [seenB, h]
        | some s => exact absurd (seenGo_in n ps 0 s h) hin
      rw [e1, e2]
  · simp [eachB, seenB, hl]

theorem eachB_in {n : Nat} {ps : List Int} (h : eachB n ps = true) : ps.length = n ∧ ∀ i ∈ ps, ptB i n = true := by
  unfold eachB at h
  rw [Bool.and_eq_true] at h
  exact ⟨of_decide_eq_true h.1, eachGo_in n ps 0 h.2⟩

/-- the number at a place, as a point -/
def pv (ps : List Int) (i : Nat) : Nat := (rowAt ps i).toNat
/-- pairs under other names, one by one -/
def namedAcc (n : Nat) (ps : List Int) (pre : List (Fin n × Fin n)) : List Int := pre.foldl (fun zs p => addPair zs (pv ps p.1.val) (pv ps p.2.val)) (List.replicate n 0)
theorem namedAcc_snoc (n : Nat) (ps : List Int) (pre : List (Fin n × Fin n)) (p : Fin n × Fin n) : namedAcc n ps (pre ++ [p]) = addPair (namedAcc n ps pre) (pv ps p.1.val) (pv ps p.2.val) := by
  unfold namedAcc
  rw [List.foldl_append]
  rfl
theorem namedAcc_len (n : Nat) (ps : List Int) (pre : List (Fin n × Fin n)) : (namedAcc n ps pre).length = n := by
  have h : ∀ (l : List (Fin n × Fin n)) (zs : List Int), (l.foldl (fun zs p => addPair zs (pv ps p.1.val) (pv ps p.2.val)) zs).length = zs.length := by
    intro l
    induction l with
    | nil => intro zs; rfl
    | cons p r ih => intro zs; rw [List.foldl_cons, ih, addPair_len]
  unfold namedAcc
  rw [h]
  simp
theorem pv_at {n : Nat} {ps : List Int} (h : eachB n ps = true) (i : Nat) (hi : i < n) : ps[i]? = some ((pv ps i : Nat) : Int) ∧ pv ps i < n := by
  obtain ⟨hl, hin⟩ := eachB_in h
  have hg := rowAt_get (xs := ps) (k := i) (by omega)
  have hp := of_decide_eq_true (hin _ (List.mem_of_getElem? hg))
  unfold pv
  refine ⟨?_, by omega⟩
  rw [hg]
  congr 1
  omega

end Go.Proofs.YthdnpcpimggjnaaGreatDoor
