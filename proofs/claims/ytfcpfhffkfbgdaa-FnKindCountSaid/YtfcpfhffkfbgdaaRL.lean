/-
  The draw of a text of kinds: l91Kinds, for any letters.
-/
import Derived.Test.YtfcpfhffkfbgdaaDE
namespace Go.Proofs.Ytfcpfhffkfbgdaa
open Go.RowKit

/-- the texts that seldom come behind -/
def odd3 : List ByteArray := [⟨#[120]⟩, ⟨#[114, 114]⟩, ⟨#[32]⟩]
theorem odd_size : ∀ st ∈ odd3, st.size ≤ 2 := by decide
theorem odd_cells (w : World) (k : Nat) (st : ByteArray) (h : odd3[k]? = some st) :
    (w.alloc (.cells #[.string ⟨#[120]⟩, .string ⟨#[114, 114]⟩, .string ⟨#[32]⟩] 9)).cell? ⟨w.heap.size, k, none⟩ = some (.string st) := by
  have hn := World.alloc_heap_new w (.cells #[.string ⟨#[120]⟩, .string ⟨#[114, 114]⟩, .string ⟨#[32]⟩] 9)
  simp only [World.cell?, hn]
  have hk : k < 3 := (List.getElem?_eq_some_iff.1 h).1
  rcases (by omega : k = 0 ∨ k = 1 ∨ k = 2) with rfl | rfl | rfl <;> (cases h; rfl)

set_option maxRecDepth 20000 in
set_option maxHeartbeats 8000000 in
theorem l91Kinds_any {w : World} {R : Nat} {ao : Option Addr} {bs : List Nat} {c p : Nat} (S : DrS w w R ao bs c p) (hb : RdB w ao bs) (hbR : bs ≠ [] → ∀ a, ao = some a → a.block < R) (hl : bs.length ≤ 2000) (hp : p ≤ 900) (lt : ByteArray) (hs1 : 1 ≤ lt.size) (hs10 : lt.size ≤ 10) :
    Calls Try.prog 63 #[.pointer (some ⟨R, 0, none⟩), .string lt] w fun e w' => ∃ (st : ByteArray) (q : Nat), e = .returned (.string st) ∧ st.size ≤ 12 ∧ DrS w w' R ao bs c q := by
  have hRw : R < w.heap.size := (Array.getElem?_eq_some_iff.1 S.rd).1
  have HP := Lib.hid (fun (wr : World) (p : Nat) (S : DrS w wr R ao bs c p) (hp : p ≤ 1048576) => pick_step S hb hbR hl hp)
  have HO := Lib.hid (fun (wr : World) (p : Nat) (S : DrS w wr R ao bs c p) (hp : p ≤ 1048576) => of_step S hb hbR hl hp)
  clear hb hbR
  go_enter Try.func63, Try.ntmps63
  go_wp2
  go_loopw [5, 6] (fun s i wr => ∃ (k q : Nat) (st : ByteArray), k ≤ lt.size ∧ i = .int .i64 k ∧ s = .string st ∧ st.size ≤ k ∧ q ≤ p + k ∧ DrS w wr R ao bs c q)
    (fun _ i _ => lt.size - (intOf i).toNat)
  case atStart => exact ⟨0, p, ByteArray.empty, Nat.zero_le _, rfl, rfl, Nat.le_refl _, Nat.le_refl _, S⟩
  case round =>
    clear S
    obtain ⟨k, q, st, hk, rfl, rfl, hsz, hq, S⟩ := hrel
    by_cases hlt : k < lt.size
    · have hi1 : ((k : Nat) : Int) < (lt.size : Int) := by omega
      have hbig : ¬ 9223372036854775807 < st.size + (min (k + 1) lt.size - k) := by omega
      have HA := Lib.hid (HP.out wr q S (by omega) lt.size (lt.size : Int) rfl (by omega) (by omega))
      clear S
      go_wp2_with fail
      refine HA.out.mono ?_
      rintro e wa ⟨z, hz, rfl, Sa, hsa, _, _⟩
      have HS := Lib.hid (And.intro Sa hsz)
      clear Sa hsa HA hsz
      by_cases hz2 : z < 2
      · have h2 : ((z : Nat) : Int) < 2 := by omega
        go_wp2
        go_roundw
        case rel =>
          refine ⟨k + 1, q + 1, _, by omega, by go_num, rfl, ?_, by omega, HS.out.1⟩
          have h3 := HS.out.2
          simp [ByteArray.size_append, ByteArray.size_extract]
          omega
        case measure => simp [intOf]; omega
      · have h2 : ¬ ((z : Nat) : Int) < 2 := by omega
        go_wp2
        go_roundw
        case rel => exact ⟨k + 1, q + 1, st, by omega, by go_num, rfl, by have := HS.out.2; omega, by omega, HS.out.1⟩
        case measure => simp [intOf]; omega
    · obtain rfl : k = lt.size := by omega
      have HA := Lib.hid (HP.out wr q S (by omega) 30 (30 : Int) rfl (by omega) (by omega))
      clear S
      go_wp2_with fail
      refine HA.out.mono ?_
      rintro e wa ⟨z, hz, rfl, Sa, hsa, _, _⟩
      by_cases hz0 : z = 0
      · subst hz0
        have S2 := Sa.step hRw ((Below.refl w.heap.size wa).alloc Sa.sz (.cells #[.string ⟨#[120]⟩, .string ⟨#[114, 114]⟩, .string ⟨#[32]⟩] 9))
        have hwR : wa.heap.size ≠ R := by have := Sa.sz; omega
        have HF := Lib.hid (HO.out _ (q + 1) S2 (by omega) wa.heap.size 3 odd3 hwR (odd_cells wa) (by decide) (by decide))
        have hbig : ∀ t : ByteArray, t.size ≤ 2 → ¬ 9223372036854775807 < st.size + t.size := fun t h => by omega
        clear S2 Sa hsa HA
        go_wp2_with fail
        refine HF.out.mono ?_
        rintro e wb ⟨t, ht, rfl, Sb, hsb, _⟩
        have ht2 := odd_size t ht
        have hb2 := hbig t ht2
        have HS := Lib.hid (And.intro Sb (And.intro hsz ht2))
        clear Sb hsz ht2 hsb HF hbig ht
        go_wp2
        go_ret
        exact ⟨_, q + 1 + 1, rfl, by have := HS.out.2; simp [ByteArray.size_append]; omega, HS.out.1⟩
      · have e0 : (((z : Nat) : Int) == 0) = false := beq_eq_false_iff_ne.2 (by omega)
        have HS := Lib.hid (And.intro Sa hsz)
        clear Sa hsz hsa HA
        go_wp2
        go_ret
        exact ⟨st, q + 1, rfl, by have := HS.out.2; omega, HS.out.1⟩

end Go.Proofs.Ytfcpfhffkfbgdaa
