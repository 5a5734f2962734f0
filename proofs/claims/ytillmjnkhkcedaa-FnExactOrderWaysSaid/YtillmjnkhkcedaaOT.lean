/-
  The model's OrderWays and OrderFirst; for lists of at most 2^20 numbers.
-/
import Derived.Test.YtillmjnkhkcedaaOQ
import Derived.Test.YtillmjnkhkcedaaOP
namespace Go.Proofs.Ytillmjnkhkcedaa
open Go.RowKit

theorem lit_lists (w : World) : (w.alloc (.cells #[] 22)).ownsRow w.heap.size 22 1 (.slice (some ⟨w.heap.size, 0, none⟩) 0 0) 0 [] :=
  World.ownsRow_lit w #[] 0 (Nat.le_refl _) (by unfold maxLen; omega) rfl

theorem ways_start {ao : Option Addr} {ca : Nat} {xs : List Int} (hp : ordB xs = true) (w : World) (hx : Rd w ao xs) :
    Calls Try.prog 53 #[.slice ao xs.length ca, .slice (some ⟨w.heap.size, 0, none⟩) 0 0, .int .i64 0, .slice (some ⟨w.heap.size + 1, 0, none⟩) 0 0] ((w.alloc (.cells #[] 3)).alloc (.cells #[] 22)) fun e W' =>
      ∃ L' vs, e = .returned L' ∧ WList W' w.heap.size L' vs (waysL xs) ∧ Below w.heap.size w W' := by
  have B2 := below_two w (.cells #[] 3) (.cells #[] 22)
  have hl := lit_lists (w.alloc (.cells #[] 3))
  rw [World.size_alloc] at hl
  have h := l5Ways_any (ca := ca) (ord_yes hp).1 hx xs.length [] 0 w.heap.size 0 (.slice (some ⟨w.heap.size + 1, 0, none⟩) 0 0) [] [] _ (by simp) ⟨0, rfl, Nat.two_pow_pos _⟩ B2 ((row_lit0 w).alloc _)
    ⟨own_mono hl (Nat.le_succ _), rfl, fun k v w hv => by simp at hv⟩ (by
      have := (ways_some hp).2
      rw [List.nil_append]
      show (waysL xs).length ≤ 1000
      omega)
  rw [List.nil_append] at h
  refine h.mono ?_
  rintro e W' ⟨L', vs, rfl, hw, hg, _⟩
  exact ⟨L', vs, rfl, hw, B2.trans (grown_below hg B2.size (fun q hq => by cases hq; exact Nat.le_succ _))⟩

theorem specOrderWays_any (ao : Option Addr) (ca : Nat) (xs : List Int) (w : World) (hl : xs.length ≤ 1048576) (hx : Rd w ao xs) :
    Calls Try.prog 27 #[.slice ao xs.length ca] w fun e w' => e = .returned (.tuple #[.int .i64 (waysN xs), .bool (ordB xs)]) ∧ Below w.heap.size w w' := by
  have h1 := specOrderIn_any ao ca xs w hl hx
  unfold waysN
  cases hp : ordB xs with
  | false =>
    rw [hp] at h1
    have H1 := Lib.hid h1
    clear h1 hp hx
    go_enter Try.func27, Try.ntmps27
    go_wp2_with fail
    refine H1.out.mono ?_
    rintro e w1 ⟨rfl, hb⟩
    go_wp2
    go_ret2
    exact ⟨rfl, hb⟩
  | true =>
    rw [hp] at h1
    have H1 := Lib.hid h1
    have HW := Lib.hid (fun w h => ways_start (ao := ao) (ca := ca) hp w h)
    have hwl := ways_some hp
    clear h1 hp
    go_enter Try.func27, Try.ntmps27
    go_wp2_with fail
    refine H1.out.mono ?_
    rintro e w1 ⟨rfl, hb⟩
    have hx1 := hx.below hb
    clear hx
    go_wp2_with fail
    refine (HW.out _ hx1).mono ?_
    rintro e w2 ⟨L', vs, rfl, hw, hb2⟩
    have hvl := hw.len
    obtain ⟨g, cap, rfl⟩ := form_one hw.row (by omega)
    have HF := Lib.hid (And.intro hvl (hb.trans (hb2.mono hb.size)))
    clear hw hb2 hb hvl
    go_wp2
    go_ret2
    exact ⟨by rw [HF.out.1]; rfl, HF.out.2⟩

theorem specOrderFirst_any (ao : Option Addr) (ca : Nat) (xs : List Int) (w : World) (hl : xs.length ≤ 1048576) (hx : Rd w ao xs) :
    Calls Try.prog 29 #[.slice ao xs.length ca] w (Gave w (ifR (ordB xs) (firstL xs)) (ordB xs)) := by
  have h1 := specOrderIn_any ao ca xs w hl hx
  cases hp : ordB xs with
  | false =>
    rw [hp] at h1
    have H1 := Lib.hid h1
    clear h1 hp hx
    go_enter Try.func29, Try.ntmps29
    go_wp2_with fail
    refine H1.out.mono ?_
    rintro e w1 ⟨rfl, hb⟩
    have hr := own_mono (row_lit0 w1) hb.size
    go_wp2
    go_ret2
    exact ⟨_, rfl, hr, hb.alloc hb.size _⟩
  | true =>
    rw [hp] at h1
    have H1 := Lib.hid h1
    have HW := Lib.hid (fun w h => ways_start (ao := ao) (ca := ca) hp w h)
    have hwl := ways_some hp
    clear h1 hp
    go_enter Try.func29, Try.ntmps29
    go_wp2_with fail
    refine H1.out.mono ?_
    rintro e w1 ⟨rfl, hb⟩
    have hx1 := hx.below hb
    clear hx
    go_wp2_with fail
    refine (HW.out _ hx1).mono ?_
    rintro e w2 ⟨L', vs, rfl, hw, hb2⟩
    have hvl := hw.len
    obtain ⟨v0, vr, rfl⟩ : ∃ v0 vr, vs = v0 :: vr := by
      cases vs with
      | nil => simp at hvl; omega
      | cons a b => exact ⟨a, b, rfl⟩
    obtain ⟨x0, xr, hxe⟩ : ∃ x0 xr, waysL xs = x0 :: xr := by
      cases hq : waysL xs with
      | nil => rw [hq] at hwl; simp at hwl
      | cons a b => exact ⟨a, b, rfl⟩
    have h0 := hw.each 0 v0 x0 rfl (by rw [hxe]; rfl)
    obtain ⟨g, cap, rfl⟩ := form_one hw.row (by simp)
    have hc := hw.row.cellAt 0 (by simp)
    have hc : w2.cell? ⟨g, 0, none⟩ = some v0 := hc
    have hfe := first_eq hxe
    have HF := Lib.hid (And.intro (own_mono h0 hb.size) (And.intro (hb.trans (hb2.mono hb.size)) hfe))
    have hlen : (0 : Int) < ((v0 :: vr).length : Int) := by rw [List.length_cons]; omega
    obtain ⟨n, hn⟩ : ∃ n, (v0 :: vr).length = n := ⟨_, rfl⟩
    rw [hn] at hlen ⊢
    clear hw hb2 hb hvl h0 hxe hn hwl hfe
    go_wp2
    go_ret2
    exact ⟨v0, rfl, by rw [HF.out.2.2]; exact HF.out.1, HF.out.2.1⟩

theorem first_len {xs : List Int} (h : ordB xs = true) : (firstL xs).length = xs.length := by
  have hs := ways_some h
  have hl := fun w (hw : w ∈ waysL xs) => ways_len w hw
  unfold firstL
  cases hq : waysL xs with
  | nil => rw [hq] at hs; simp at hs
  | cons a b => exact hl a (by rw [hq]; simp)
end Go.Proofs.Ytillmjnkhkcedaa
