/-
  The model's RectRank; for lists of at most 2^20 numbers.
-/
import Derived.Test.YtglhbejdnfafgabQK
namespace Go.Proofs.Ytglhbejdnfafgab
open Go.RowKit

theorem own2_rdS {w : World} {lo hi : Nat} {v : Value} {F : List (Int × Int)} {gs : Nat → Nat} (h : Own2 w lo hi v F.length (PI F) gs) : ∃ ao cap, v = .slice ao F.length cap ∧ RdS w ao (FL F) := by
  obtain ⟨ao, cap, hv, hc⟩ := h.rd
  refine ⟨ao, cap, hv, fun k ys hk => ?_⟩
  have hlt : k < F.length := by
    have := (List.getElem?_eq_some_iff.1 hk).1
    rw [FL_len] at this
    exact this
  obtain ⟨r, hr⟩ : ∃ r, F[k]? = some r := ⟨_, List.getElem?_eq_getElem hlt⟩
  rw [FL_at hr] at hk
  cases hk
  obtain ⟨b, hb, hcell⟩ := hc k hlt
  obtain ⟨l2, o2⟩ := h.rows k hlt
  rw [PI_at hr] at l2 o2
  have hrow := o2.row
  have hvb := h.row.lt
  refine ⟨b, 0, some ⟨gs k, 0, none⟩, 2, hb, ?_, by rw [Nat.zero_add]; exact hcell, rd_own hrow rfl⟩
  subst hb
  rw [hv] at hvb
  exact (hvb b rfl).2

/-- a number, or 0 -/
def rkI (b : Bool) (k : Nat) : Int := if b then (k : Int) else 0

set_option maxHeartbeats 4000000 in
theorem specRectRank_any (ao : Option Addr) (ca : Nat) (xs : List Int) (k : Nat) (w : World) (hk : relIn xs = true → k ≤ (fullL xs).length ∧ LeastC xs.length (fullL xs) xs k) (hl : xs.length ≤ 1048576) (hx : Rd w ao xs) :
    Calls Try.prog 14 #[.slice ao xs.length ca] w fun e w' => e = .returned (.tuple #[.int .i64 (rkI (relIn xs) k), .bool (relIn xs)]) ∧ Below w.heap.size w w' := by
  have h1 := specRelIn_any ao ca xs w hl hx
  cases hp : relIn xs with
  | false =>
    rw [hp] at h1
    have H1 := Lib.hid h1
    clear h1 hp
    go_enter Try.func14, Try.ntmps14
    go_wp2_with fail
    refine H1.out.mono ?_
    rintro e w1 ⟨rfl, hd⟩
    go_wp2
    go_ret2
    exact ⟨rfl, hd.below _⟩
  | true =>
    rw [hp] at h1
    obtain ⟨hk1, hk2⟩ := hk hp
    have R := Rl.of hp
    have h16 : (fullL xs).length ≤ 16 := Nat.le_trans (full_len xs _) (pow_le16 R.four)
    have H1 := Lib.hid h1
    have HC := Lib.hid (And.intro (fun w h => l6rAll_any R ao ca w h) (And.intro R (And.intro hk2 hx)))
    clear h1 hp hk2 hx R hk
    go_enter Try.func14, Try.ntmps14
    go_wp2_with fail
    refine H1.out.mono ?_
    rintro e w1 ⟨rfl, hd⟩
    have B1 := hd.below w.heap.size
    clear hd H1
    go_wp2
    go_loopw [4] (fun n wr => ∃ j : Nat, j ≤ k ∧ n = .int .i64 j ∧ Below w.heap.size w wr)
      (fun n _ => k - (intOf n).toNat)
    case atStart => exact ⟨0, Nat.zero_le _, rfl, B1⟩
    case round =>
      clear B1
      obtain ⟨j, hj, rfl, hB⟩ := hrel
      have hall := HC.out.1 wr (HC.out.2.2.2.below hB)
      have HA := Lib.hid hall
      clear hall
      go_wp2_with fail
      refine HA.out.mono ?_
      rintro e w2 ⟨v, gs, rfl, ho, hb⟩
      have hB2 := hB.trans (hb.mono hB.size)
      obtain ⟨bo, cb, rfl, hrs⟩ := own2_rdS ho
      have hcov := cover_any (n := xs.length) (F := fullL xs) (fun r hr => (full_mem HC.out.2.1 hr).1) (by omega) ao bo ca cb j xs ao ca w2 (by omega) HC.out.2.1 (HC.out.2.2.2.below hB2) hrs
      have HV := Lib.hid hcov
      clear hcov hrs ho hb hB HA
      go_wp2_with fail
      refine HV.out.mono ?_
      rintro e w3 ⟨b, rfl, hiff, hb⟩
      have hB3 := hB2.trans (hb.mono hB2.size)
      clear hb hB2 HV
      cases b with
      | true =>
        have hjk : j = k := by
          by_cases e : j < k
          · exact absurd (hiff.1 rfl) (HC.out.2.2.1.2 j e)
          · omega
        have HJ := Lib.hid hjk
        clear hiff hjk
        go_wp2
        go_ret2
        exact ⟨by rw [HJ.out]; rfl, hB3⟩
      | false =>
        have hjk : j < k := by
          by_cases e : j = k
          · subst e
            exact Bool.noConfusion (hiff.2 HC.out.2.2.1.1)
          · omega
        clear hiff
        go_wp2
        go_roundw
        case rel => exact ⟨j + 1, by omega, by go_num, hB3⟩
        case measure => simp [intOf]; omega
end Go.Proofs.Ytglhbejdnfafgab
