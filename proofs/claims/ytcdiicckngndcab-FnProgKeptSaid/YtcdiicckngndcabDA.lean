/-
  The draw's reader: pick, of, open; for codes of at most 2000 bytes.
-/
import Derived.Test.YtcdiicckngndcabX
import Derived.Laws.Bits64
namespace Go.Proofs.Ytcdiicckngndcab
open Go.RowKit

/-- the slice at this address reads as these bytes -/
def RdB (w : World) (ao : Option Addr) (bs : List Nat) : Prop :=
  ∀ (k x : Nat), bs[k]? = some x → x < 256 ∧ ∃ b off, ao = some ⟨b, off, none⟩ ∧ b < w.heap.size ∧ w.cell? ⟨b, off + k, none⟩ = some (.int .u8 x)

/-- a reader in a block of its own -/
def RdrAt (w : World) (R : Nat) (ao : Option Addr) (n c p : Nat) : Prop :=
  w.heap[R]? = some (.cells #[.slice ao n c, .int .i64 p] 67)

theorem RdrAt.cell0 {w : World} {R : Nat} {ao : Option Addr} {n c p : Nat} (h : RdrAt w R ao n c p) : w.cell? ⟨R, 0, none⟩ = some (.slice ao n c) := by
  simp [World.cell?, show w.heap[R]? = _ from h]
theorem RdrAt.cell1 {w : World} {R : Nat} {ao : Option Addr} {n c p : Nat} (h : RdrAt w R ao n c p) : w.cell? ⟨R, 1, none⟩ = some (.int .i64 p) := by
  simp [World.cell?, show w.heap[R]? = _ from h]
theorem RdrAt.free {w : World} {R : Nat} {ao : Option Addr} {n c p : Nat} (h : RdrAt w R ao n c p) (j : Nat) : w.frozen? ⟨R, j, none⟩ = false := by
  simp [World.frozen?, show w.heap[R]? = _ from h]

theorem xorI (X Y : Nat) (hX : X < 4294967296) (hY : Y < 4294967296) : ∃ Z : Nat, bits .xor .i64 (X : Int) (Y : Int) = (Z : Int) ∧ Z < 4294967296 := by
  have hx : X ^^^ Y < 2 ^ 32 := Nat.xor_lt_two_pow (by omega) (by omega)
  have h1 : (BitVec.ofInt 64 (X : Int)).toNat = X := by
    rw [BitVec.ofInt_natCast, BitVec.toNat_ofNat]; exact Nat.mod_eq_of_lt (by omega)
  have h2 : (BitVec.ofInt 64 (Y : Int)).toNat = Y := by
    rw [BitVec.ofInt_natCast, BitVec.toNat_ofNat]; exact Nat.mod_eq_of_lt (by omega)
  refine ⟨X ^^^ Y, ?_, by omega⟩
  show IntKind.i64.wrap ((BitVec.ofInt 64 (X : Int) ^^^ BitVec.ofInt 64 (Y : Int)).toNat : Int) = _
  rw [BitVec.toNat_xor, h1, h2]
  simp only [IntKind.wrap, IntKind.bits, IntKind.signed]
  obtain ⟨q, hq⟩ : ∃ q, X ^^^ Y = q := ⟨_, rfl⟩
  rw [hq] at hx ⊢
  simp only [Bool.true_and]
  rw [if_neg (by intro hh; have := of_decide_eq_true hh; omega)]
  omega

theorem pick_any (R : Nat) (ao : Option Addr) (c : Nat) (bs : List Nat) (p m : Nat) (w : World) (hR : RdrAt w R ao bs.length c p) (hb : RdB w ao bs) (hbR : bs ≠ [] → ∀ a, ao = some a → a.block ≠ R)
    (hl : bs.length ≤ 2000) (hp : p ≤ 1048576) (h1 : 1 ≤ m) (hm : m ≤ 1048576) :
    Calls Try.prog 63 #[.pointer (some ⟨R, 0, none⟩), .int .i64 m] w fun e w' => ∃ k : Nat, k < m ∧ e = .returned (.int .i64 k) ∧ Dn (w.setCell ⟨R, 1, none⟩ (.int .i64 (p + 1 : Nat))) w' := by
  have p0 := hR.cell0
  have p1 := hR.cell1
  have f1 := hR.free 1
  by_cases h0 : bs.length = 0
  · have e1 : ((bs.length : Int) == 0) = true := by rw [h0]; rfl
    have hm1 : decide ((m : Int) < 1) = false := decide_eq_false (by omega)
    go_enter Try.func63, Try.ntmps63
    go_wp2
    go_ret
    exact ⟨0, h1, rfl, by push_cast; exact Dn.refl _⟩
  · have e1 : ((bs.length : Int) == 0) = false := beq_eq_false_iff_ne.2 (by omega)
    have hm1 : decide ((m : Int) < 1) = false := decide_eq_false (by omega)
    by_cases hlt : p < bs.length
    · obtain ⟨hx, b, off, rfl, hbl, hc⟩ := hb p _ (List.getElem?_eq_getElem hlt)
      have hbne : b ≠ R := hbR (fun e => h0 (by rw [e]; rfl)) _ rfl
      have hj : ((p : Nat) : Int) < (bs.length : Int) := by omega
      have hc1 : (w.setCell ⟨R, 1, none⟩ (.int .i64 ((p : Int) + 1))).cell? ⟨b, off + p, none⟩ = some (.int .u8 bs[p]) := by
        rw [← hc]; exact World.cell?_of_block (Below.heap_setCell _ _ _ _ hbne)
      obtain ⟨x, hxe⟩ : ∃ x, bs[p] = x := ⟨_, rfl⟩
      rw [hxe] at hx hc hc1
      clear hxe hb hbR hc
      go_enter Try.func63, Try.ntmps63
      go_wp2
      go_ret
      exact ⟨x % m, Nat.mod_lt _ h1, by push_cast; rfl, by push_cast; exact Dn.refl _⟩
    · have hq1 : p % bs.length < bs.length := Nat.mod_lt _ (by omega)
      have hq2 : (p * 7 + 3) % bs.length < bs.length := Nat.mod_lt _ (by omega)
      obtain ⟨hx, b, off, rfl, hbl, hc⟩ := hb _ _ (List.getElem?_eq_getElem hq1)
      obtain ⟨hy, b', off', hbo, _, hd⟩ := hb _ _ (List.getElem?_eq_getElem hq2)
      simp only [Option.some.injEq, Addr.mk.injEq, and_true] at hbo
      obtain ⟨rfl, rfl⟩ := hbo
      have hbne : b ≠ R := hbR (fun e => h0 (by rw [e]; rfl)) _ rfl
      have hj1 : ((p : Nat) : Int) % (bs.length : Int) < (bs.length : Int) := by omega
      have hj2 : (((p : Nat) : Int) * 7 + 3) % (bs.length : Int) < (bs.length : Int) := Int.emod_lt_of_pos _ (by omega)
      have hj3 : 0 ≤ ((p : Nat) : Int) % (bs.length : Int) := by omega
      have hj4 : 0 ≤ (((p : Nat) : Int) * 7 + 3) % (bs.length : Int) := Int.emod_nonneg _ (by omega)
      have hdv0 : 0 ≤ ((p : Nat) : Int) / (bs.length : Int) := Int.ediv_nonneg (by omega) (by omega)
      have hdv1 : ((p : Nat) : Int) / (bs.length : Int) ≤ 1048576 := Int.le_trans (Int.ediv_le_self _ (by omega)) (by omega)
      have hc1 : (w.setCell ⟨R, 1, none⟩ (.int .i64 ((p : Int) + 1))).cell? ⟨b, off + p % bs.length, none⟩ = some (.int .u8 bs[p % bs.length]) := by
        rw [← hc]; exact World.cell?_of_block (Below.heap_setCell _ _ _ _ hbne)
      have hd1 : (w.setCell ⟨R, 1, none⟩ (.int .i64 ((p : Int) + 1))).cell? ⟨b, off + (p * 7 + 3) % bs.length, none⟩ = some (.int .u8 bs[(p * 7 + 3) % bs.length]) := by
        rw [← hd]; exact World.cell?_of_block (Below.heap_setCell _ _ _ _ hbne)
      obtain ⟨x, hxe⟩ : ∃ x, bs[p % bs.length] = x := ⟨_, rfl⟩
      obtain ⟨y, hye⟩ : ∃ x, bs[(p * 7 + 3) % bs.length] = x := ⟨_, rfl⟩
      rw [hxe] at hx hc hc1
      rw [hye] at hy hd hd1
      clear hxe hye hb hbR hc hd
      go_enter Try.func63, Try.ntmps63
      go_wp2
      go_quiet (fail)
      obtain ⟨X, hX, hXl⟩ : ∃ X : Nat, ((x : Int) * 131 + (y : Int) * 1117 + (p : Int) * 29 + (p : Int) / (bs.length : Int) * 53) = (X : Int) ∧ X < 4294967296 := ⟨((x : Int) * 131 + (y : Int) * 1117 + (p : Int) * 29 + (p : Int) / (bs.length : Int) * 53).toNat, by omega, by omega⟩
      rw [hX]
      obtain ⟨Z, hZ, hZl⟩ := xorI X (X / 64) hXl (by omega)
      push_cast at hZ
      clear hX hc1 hd1 hj1 hj2 hj3 hj4 hdv0 hdv1
      go_wp2
      go_ret
      exact ⟨Z % m, Nat.mod_lt _ h1, by push_cast; rfl, by push_cast; exact Dn.drewN _ _⟩
theorem RdrAt.next {w w' : World} {R : Nat} {ao : Option Addr} {n c p : Nat} (h : RdrAt w R ao n c p) (hd : Dn (w.setCell ⟨R, 1, none⟩ (.int .i64 (p + 1 : Nat))) w') : RdrAt w' R ao n c (p + 1) := by
  unfold RdrAt
  rw [hd.heap]
  have hlt : R < w.heap.size := (Array.getElem?_eq_some_iff.1 h).1
  have h2 : w.heap[R] = .cells #[.slice ao n c, .int .i64 p] 67 := (Array.getElem?_eq_some_iff.1 h).2
  simp [World.setCell, hlt, h2, Array.getElem_modify]

theorem RdB.take {w : World} {ao : Option Addr} {bs : List Nat} (h : RdB w ao bs) (n : Nat) : RdB w ao (bs.take n) := by
  intro k x hk
  rw [List.getElem?_take] at hk
  split at hk
  · exact h k x hk
  · cases hk
theorem RdB.below {w w' : World} {ao : Option Addr} {bs : List Nat} (h : RdB w ao bs) (hb : Below w.heap.size w w') : RdB w' ao bs := by
  intro k x hx
  obtain ⟨h0, b, off, h1, h2, h3⟩ := h k x hx
  exact ⟨h0, b, off, h1, Nat.lt_of_lt_of_le h2 hb.size, (hb.cell (p := ⟨b, off + k, none⟩) h2).trans h3⟩

theorem open_any (ao : Option Addr) (c : Nat) (bs : List Nat) (w : World) (hc : bs.length ≤ c) :
    Calls Try.prog 60 #[.slice ao bs.length c] w fun e w' => ∃ bs', bs' = bs.take 2000 ∧ e = .returned (.pointer (some ⟨w.heap.size, 0, none⟩)) ∧ RdrAt w' w.heap.size ao bs'.length c 0 ∧ Below w.heap.size w w' := by
  by_cases h : bs.length ≤ 2000
  · go_enter Try.func60, Try.ntmps60
    go_wp2
    go_ret
    exact ⟨_, rfl, rfl, by rw [List.take_of_length_le h]; exact World.alloc_heap_new w _, below_one _ _⟩
  · go_enter Try.func60, Try.ntmps60
    go_wp2
    go_ret
    exact ⟨_, rfl, rfl, by rw [List.length_take, Nat.min_eq_left (by omega)]; exact World.alloc_heap_new w _, below_one _ _⟩
end Go.Proofs.Ytcdiicckngndcab
