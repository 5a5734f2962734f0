/-
  The program's EquOf, where the variables of the packages lie as they are laid.
-/
import Derived.Test.YtfmcmicneaolkaaDoorJV
import Derived.Test.YtfmcmicneaolkaaDoorJU
namespace Go.Proofs.YtfmcmicneaolkaaDoor
open Go.RowKit

/-- the variables that are read -/
structure GlW (w : World) : Prop where
  tab : TabW w
  et : w.cell? ⟨0, 0, none⟩ = some (.iface 74 (.agg #[handle 34]))
  lt : 2 < w.heap.size
  lt2 : 0 < w.heap.size
theorem GlW.below {B : Nat} {w w' : World} (h : GlW w) (hb : Below B w w') (hB : w.heap.size ≤ B) : GlW w' :=
  ⟨h.tab.keep (hb.block _ (Nat.lt_of_lt_of_le h.lt hB)), (World.cell?_of_block (hb.block _ (Nat.lt_of_lt_of_le h.lt2 hB))).trans h.et,
    Nat.lt_of_lt_of_le h.lt (by have := hb.size; have := h.lt; omega), Nat.lt_of_lt_of_le h.lt2 (by have := hb.size; have := h.lt; omega)⟩

/-- what comes of a number of points and a list of sets -/
def eoRes (n : Int) (xs : List Int) : Option (List Int) := if inB n 1 4 then sRes n.toNat xs else none
def eoR (n : Int) (xs : List Int) : List Int := (eoRes n xs).getD []
def eoB (n : Int) (xs : List Int) : Bool := (eoRes n xs).isSome
theorem eo_off {n : Int} {xs : List Int} (h : inB n 1 4 = false) : eoR n xs = [] ∧ eoB n xs = false := by
  unfold eoR eoB eoRes
  rw [h]
  exact ⟨rfl, rfl⟩
theorem eo_no {n : Nat} {xs : List Int} (h : sRes n xs = none) : eoR (n : Int) xs = [] ∧ eoB (n : Int) xs = false := by
  have h2 : eoRes (n : Int) xs = none := by
    unfold eoRes
    rw [Int.toNat_natCast, h]
    split <;> rfl
  unfold eoR eoB
  rw [h2]
  exact ⟨rfl, rfl⟩
theorem eo_yes {n : Nat} {xs r : List Int} (h1 : 1 ≤ n) (h4 : n ≤ 4) (h : sRes n xs = some r) : eoR (n : Int) xs = r ∧ eoB (n : Int) xs = true := by
  have hi : inB (n : Int) 1 4 = true := by
    unfold inB
    exact decide_eq_true ⟨by omega, by omega⟩
  have h2 : eoRes (n : Int) xs = some r := by
    unfold eoRes
    rw [hi, if_pos rfl, Int.toNat_natCast, h]
  unfold eoR eoB
  rw [h2]
  exact ⟨rfl, rfl⟩
theorem inB_nat {n : Int} (h : inB n 1 4 = true) : ∃ m : Nat, n = (m : Int) ∧ 1 ≤ m ∧ m ≤ 4 := by
  unfold inB at h
  have h := of_decide_eq_true h
  exact ⟨n.toNat, by omega, by omega, by omega⟩

theorem implEquOf_off (n : Int) (v : Value) (xs : List Int) (w : World) (hn : inB n 1 4 = false) :
    Calls Tryd.prog 6 #[.int .i64 n, v] w (Gave w (eoR n xs) (eoB n xs)) := by
  have H1 := isCount_any n w
  rw [hn] at H1
  have HC := Lib.hid H1
  have HE := Lib.hid (eo_off (xs := xs) hn)
  clear H1 hn
  go_enter Tryd.func6, Tryd.ntmps6
  go_wp2_with fail
  refine HC.out.mono ?_
  rintro e w' ⟨rfl, rfl⟩
  go_wp2
  go_ret2
  rw [HE.out.1, HE.out.2]
  exact ⟨.slice none 0 0, rfl, World.ownsRow_nil _ _ _ _, Below.refl _ _⟩

set_option maxHeartbeats 4000000 in
theorem implEquOf_on (n : Nat) (h1 : 1 ≤ n) (h4 : n ≤ 4) (ao : Option Addr) (ca : Nat) (xs : List Int) (w : World) (hl : xs.length ≤ 1048576) (hx : Rd w ao xs) (G : GlW w) :
    Calls Tryd.prog 6 #[.int .i64 n, .slice ao xs.length ca] w (Gave w (eoR n xs) (eoB n xs)) := by
  have H1 := isCount_any (n : Int) w
  rw [show inB (n : Int) 1 4 = true by unfold inB; exact decide_eq_true ⟨by omega, by omega⟩] at H1
  have HC := Lib.hid H1
  have HL := Lib.hid (linkedByPartition_any n h1 h4 ao ca xs w hl hx G.tab G.lt)
  have HG := Lib.hid (fun (wr : World) (hb : Below w.heap.size w wr) => G.below hb (Nat.le_refl _))
  clear H1 hx G
  go_enter Tryd.func6, Tryd.ntmps6
  go_wp2_with fail
  refine HC.out.mono ?_
  rintro e w' ⟨rfl, rfl⟩
  go_wp2_with fail
  refine HL.out.mono ?_
  rintro e w1 ⟨hB, hP⟩
  rcases hP with ⟨ps, hf, hF, rfl, hL, hsz⟩ | ⟨hres, a, rfl⟩
  · have hs : sRes n xs = some (forestR n ps) := by
      rw [res_eq h1 h4]
      unfold iRes
      rw [hf]
      show (if (((2 ^ n - 1 : Nat) : Int) == ((2 ^ n - 1 : Nat) : Int)) = true then _ else _) = _
      rw [if_pos (by simp)]
    have HE := Lib.hid (eo_yes h1 h4 hs)
    have HQ := Lib.hid (fun (wr : World) (h : LinkW wr w.heap.size n ps) => equivalence_any hF h4 wr h)
    have HLW := Lib.hid (And.intro hL (And.intro hsz hB))
    clear hf hF hL hsz hB hs
    go_wp2_with fail
    refine (errAs_nil _ _).mono ?_
    rintro e w2 ⟨rfl, hw⟩
    have hL2 := HLW.out.1.below ((Below.refl w1.heap.size w1).alloc (Nat.le_refl _) (.cells #[.pointer none] 37)) (by have := HLW.out.2.1; omega)
    have hB2 := HLW.out.2.2.alloc HLW.out.2.2.size (.cells #[.pointer none] 37)
    rw [← hw] at hL2 hB2
    have hsz2 : w.heap.size + 1 + n ≤ w2.heap.size := by rw [hw]; have := HLW.out.2.1; simp; omega
    clear hw
    have HQ2 := Lib.hid (HQ.out w2 hL2 hsz2)
    clear hL2 hsz2
    go_wp2_with fail
    refine HQ2.out.mono ?_
    rintro e w3 ⟨rfl, hB3⟩
    go_wp2_with fail
    refine (list_any (forestR n ps) w3 (by rw [show (forestR n ps).length = n from testAcc_len _ _ _]; exact h4)).mono ?_
    rintro e w4 ⟨v, rfl, ho, hB4⟩
    go_wp2
    go_ret2
    have hB23 := hB2.trans (hB3.mono hB2.size)
    rw [HE.out.1, HE.out.2]
    exact ⟨v, rfl, own_mono ho hB23.size, hB23.trans (hB4.mono hB23.size)⟩
  · have hs : sRes n xs = none := by rw [res_eq h1 h4]; exact hres
    have HE := Lib.hid (eo_no hs)
    have HB := Lib.hid (And.intro hB (HG.out w1 hB))
    clear hs hres hB
    have HA := Lib.hid (fun (W : World) (hW : W = w1.alloc (.cells #[.pointer none] 37)) => errAs_hit ⟨a, 0, none⟩ w1.heap.size (.pointer none) W
      (by rw [hW]; exact (HB.out.2.below ((Below.refl w1.heap.size w1).alloc (Nat.le_refl _) (.cells #[.pointer none] 37)) (Nat.le_refl _)).et)
      (by rw [hW]; simp) (by rw [hW]; simp))
    go_wp2_with fail
    refine (HA.out _ rfl).mono ?_
    rintro e w2 ⟨rfl, hb2⟩
    go_wp2
    go_ret2
    rw [HE.out.1, HE.out.2]
    have hb := HB.out.1.alloc HB.out.1.size (.cells #[.pointer none] 37)
    exact ⟨.slice none 0 0, rfl, World.ownsRow_nil _ _ _ _, hb.trans (hb2.mono HB.out.1.size)⟩

theorem implEquOf_any (n : Int) (ao : Option Addr) (ca : Nat) (xs : List Int) (w : World) (hl : xs.length ≤ 1048576) (hx : Rd w ao xs) (G : GlW w) :
    Calls Tryd.prog 6 #[.int .i64 n, .slice ao xs.length ca] w (Gave w (eoR n xs) (eoB n xs)) := by
  cases hn : inB n 1 4 with
  | false => exact implEquOf_off n _ xs w hn
  | true =>
    obtain ⟨m, rfl, h1, h4⟩ := inB_nat hn
    exact implEquOf_on m h1 h4 ao ca xs w hl hx G
end Go.Proofs.YtfmcmicneaolkaaDoor
