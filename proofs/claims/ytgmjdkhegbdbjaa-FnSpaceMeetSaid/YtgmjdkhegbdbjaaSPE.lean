/-
  Contracts of the model's SpaceEven and of rowSpace.isEven.
-/
import Derived.Test.YtgmjdkhegbdbjaaSPD
namespace Go.Proofs.Ytgmjdkhegbdbjaa
open Go.RowKit

theorem Rd.cell {w : World} {xs : List Int} {b off : Nat} (h : Rd w (some ⟨b, off, none⟩) xs) (k : Nat) (hk : k < xs.length) : w.cell? ⟨b, off + k, none⟩ = some (.int .i64 (rowAt xs k)) := by
  obtain ⟨b', off', x, hx, e, _, hc⟩ := h.get k hk
  simp only [Option.some.injEq, Addr.mk.injEq, and_true] at e
  obtain ⟨rfl, rfl⟩ := e
  rw [rowAt_of hx]
  exact hc
def evL (xs : List Int) : List Int := ifR (relIn xs) (spL xs)
theorem spL_le16 {xs : List Int} (h : xs.length ≤ 4) : (spL xs).length ≤ 16 := by
  unfold spL
  rw [List.length_map]
  exact Nat.le_trans (List.length_filter_le _ _) (by rw [List.length_range]; exact Nat.pow_le_pow_right (n := 2) (by omega) h)
theorem evL_len (xs : List Int) : (evL xs).length ≤ 16 := by
  unfold evL
  cases h : relIn xs with
  | false => exact Nat.zero_le _
  | true => exact spL_le16 (Rl.of h).four
theorem read_rd {w : World} {lo : Nat} {v : Value} {L : List Int} (ho : w.ownsRow lo 3 1 v L.length (L.map (Value.int .i64))) : ∃ aw cw, v = .slice aw L.length cw ∧ Rd w aw L := by
  rcases ho.2 with ⟨rfl, hn⟩ | ⟨g, cap, cur, rfl, rest⟩
  · exact ⟨none, 0, by rw [hn], fun k x hx => by rw [List.eq_nil_of_length_eq_zero hn] at hx; simp at hx⟩
  · exact ⟨_, cap, rfl, rd_own (cap := cap) ⟨ho.1, .inr ⟨g, cap, cur, rfl, rest⟩⟩ rfl⟩
end Go.Proofs.Ytgmjdkhegbdbjaa
