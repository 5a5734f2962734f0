/-
  Contracts of toIntS and eqIntS (the laws' helpers): a fresh copy; equality of two lists of numbers; for lists of at most 2^20 numbers.
-/
import Derived.Test.YtcdiicckngndcaaRows
import Derived.WalkKit
import Derived.WalkLawsBesides
import Derived.WalkSpells
import Derived.Lib.Hide
import Derived.Deep.QuietTactic
import Derived.BigQuiet
namespace Go.Proofs.Ytcdiicckngndcaa
open Go.RowKit

theorem Try.info3 : (Try.prog.info? 3).map (fun i => (i.zero, i.size, i.bytes)) = some (some (.int .i64 0), 1, 8) := by kernel_rfl

/-- the slice at this address reads as these numbers -/
def Rd (w : World) (ao : Option Addr) (xs : List Int) : Prop :=
  ∀ k x, xs[k]? = some x → ∃ b off, ao = some ⟨b, off, none⟩ ∧ b < w.heap.size ∧ w.cell? ⟨b, off + k, none⟩ = some (.int .i64 x)

theorem Rd.get {w : World} {ao : Option Addr} {xs : List Int} (h : Rd w ao xs) (k : Nat) (hk : k < xs.length) :
    ∃ b off x, xs[k]? = some x ∧ ao = some ⟨b, off, none⟩ ∧ b < w.heap.size ∧ w.cell? ⟨b, off + k, none⟩ = some (.int .i64 x) := by
  obtain ⟨b, off, h1, h2, h3⟩ := h k xs[k] (List.getElem?_eq_getElem hk)
  exact ⟨b, off, _, List.getElem?_eq_getElem hk, h1, h2, h3⟩

theorem Rd.below {w w' : World} {ao : Option Addr} {xs : List Int} (h : Rd w ao xs) (hb : Below w.heap.size w w') : Rd w' ao xs := by
  intro k x hx
  obtain ⟨b, off, h1, h2, h3⟩ := h k x hx
  exact ⟨b, off, h1, Nat.lt_of_lt_of_le h2 hb.size, (hb.cell (p := ⟨b, off + k, none⟩) h2).trans h3⟩

/-- the same world but for draws -/
def Dn (w w' : World) : Prop := ∃ q, w' = w.drewN q
theorem Dn.refl (w : World) : Dn w w := ⟨0, rfl⟩
theorem Dn.drewN (w : World) (n : Nat) : Dn w (w.drewN n) := ⟨n, rfl⟩
theorem Dn.drew (w : World) : Dn w w.drew := ⟨1, rfl⟩
theorem Dn.trans {a b c : World} (h : Dn a b) (k : Dn b c) : Dn a c := by
  obtain ⟨q, rfl⟩ := h
  obtain ⟨r, rfl⟩ := k
  exact ⟨q + r, World.drewN_drewN _ _ _⟩
theorem Dn.heap {w w' : World} (h : Dn w w') : w'.heap = w.heap := by
  obtain ⟨q, rfl⟩ := h
  rfl
theorem Dn.below {w w' : World} (h : Dn w w') (B : Nat) : Below B w w' := by
  obtain ⟨q, rfl⟩ := h
  exact below_drewN (Below.refl _ _) q
theorem Dn.cell {w w' : World} (h : Dn w w') (p : Addr) : w'.cell? p = w.cell? p := by
  obtain ⟨q, rfl⟩ := h
  rfl
theorem Dn.rd {w w' : World} {ao : Option Addr} {xs : List Int} (h : Dn w w') (hr : Rd w ao xs) : Rd w' ao xs := by
  obtain ⟨q, rfl⟩ := h
  exact hr
theorem Dn.row {w w' : World} {base : Nat} {e : TypeId} {size : Nat} {v : Value} {n : Nat} {xs : List Value} (h : Dn w w') (hr : w.ownsRow base e size v n xs) : w'.ownsRow base e size v n xs := by
  obtain ⟨q, rfl⟩ := h
  exact hr
/-- a quiet callee, in a region that draws -/
theorem quiet_dn {P : Program} {f : FuncId} {args : Array Value} {w : World} {n : Nat} {v : Value}
    (h : Calls P f args (w.drewN n) fun e w' => e = .returned v ∧ Dn (w.drewN n) w') : Calls P f args (w.drewN n) fun e w'' => e = .returned v ∧ ∃ m, w'' = w.drewN m :=
  h.mono fun _ _ ⟨he, m, hm⟩ => ⟨he, n + m, by rw [hm, World.drewN_drewN]⟩
theorem quiet_eq {P : Program} {f : FuncId} {args : Array Value} {w : World} {n : Nat} {v : Value}
    (h : Calls P f args (w.drewN n) fun e w' => e = .returned v ∧ w.drewN n = w') : Calls P f args (w.drewN n) fun e w'' => e = .returned v ∧ ∃ m, w'' = w.drewN m :=
  h.mono fun _ _ ⟨he, hm⟩ => ⟨he, n, hm.symm⟩

theorem toInts_step (xs : List Int) (k : Nat) (x : Int) (h : xs[k]? = some x) :
    ((xs.take k).map (Value.int .i64) ++ List.replicate (xs.length - k) (Value.int .i64 0)).set k (Value.int .i64 x) =
      (xs.take (k + 1)).map (Value.int .i64) ++ List.replicate (xs.length - (k + 1)) (Value.int .i64 0) := by
  obtain ⟨hk, hx⟩ := List.getElem?_eq_some_iff.1 h
  obtain ⟨m, hm⟩ : ∃ m, xs.length - k = m + 1 := ⟨xs.length - k - 1, by omega⟩
  have hm2 : xs.length - (k + 1) = m := by omega
  have h0 : k - (List.map (Value.int IntKind.i64) (List.take k xs)).length = 0 := by simp; omega
  rw [hm, hm2, List.set_append_right _ _ (by simp; omega), h0, List.replicate_succ, List.take_succ_eq_append_getElem hk, List.set_cons_zero, hx]
  simp only [List.map_append, List.map_cons, List.map_nil, List.append_assoc, List.cons_append, List.nil_append]

set_option maxHeartbeats 1000000 in
theorem toIntS_any (ao : Option Addr) (cap : Nat) (xs : List Int) (w : World) (hl : xs.length ≤ 1048576) (hr : Rd w ao xs) :
    Calls Try.prog 14 #[.slice ao xs.length cap] w fun e w' => ∃ v, e = .returned v ∧ w'.ownsRow w.heap.size 3 1 v xs.length (xs.map (Value.int .i64)) ∧ Below w.heap.size w w' := by
  obtain ⟨i0, hi, hz0, hz1, hz2⟩ := info_parts Try.info3
  go_enter Try.func14, Try.ntmps14
  go_wp2_with (at_make; refine wpList_make_full _ rfl _ _ 22 rfl w.heap.size 3 i0 (.int .i64 0) 1 Try.underlying22 hi hz0 hz1 _ _ _ _ xs.length rfl rfl rfl rfl ?c1 ?c2 ?c3 ?_)
  case c1 => rw [hz2]; omega
  case c2 => unfold maxLen; omega
  case c3 => exact Nat.le_refl _
  intro w1 hown hgrow
  have hB : Below w.heap.size w w1 := (Below.refl _ _).grown hgrow (Nat.le_refl _) (by simp)
  rw [toList_madeCells_one] at hown
  clear hgrow
  go_wp2
  go_loopw [4] (fun i wr => ∃ k : Nat, k ≤ xs.length ∧ i = .int .i64 k ∧ wr.ownsRow w.heap.size 3 1 (.slice (some ⟨w.heap.size, 0, none⟩) xs.length xs.length) xs.length ((xs.take k).map (Value.int .i64) ++ List.replicate (xs.length - k) (.int .i64 0)) ∧ Below w.heap.size w wr)
    (fun i _ => xs.length - (intOf i).toNat)
  case atStart => exact ⟨0, Nat.zero_le _, rfl, by simpa using hown, hB⟩
  case round =>
    obtain ⟨k, hk, rfl, ho, hb⟩ := hrel
    by_cases hlt : k < xs.length
    · obtain ⟨b, off, x, hxk, rfl, hbl, hc1⟩ := (hr.below hb).get k hlt
      have HX := Lib.hid hxk
      have hc2 := ho.cellAt k (by omega)
      have hf2 := ho.frozenAt k
      clear hr hown hB hxk
      go_wp2
      go_roundw
      case rel =>
        refine ⟨k + 1, by omega, by go_num, ?_, hb.setCell (Nat.le_refl _) _⟩
        have := (ho.stored k (.int .i64 x)).1
        rw [toInts_step xs k x HX.out] at this
        exact this
      case measure => simp [intOf]; omega
    · go_wp2
      go_ret
      obtain rfl : k = xs.length := by omega
      exact ⟨_, rfl, by simpa using ho, hb⟩

set_option maxHeartbeats 1000000 in
theorem eqIntS_any (ao bo : Option Addr) (ca cb : Nat) (xs ys : List Int) (w : World) (hl : xs.length ≤ 1048576) (hl2 : ys.length ≤ 1048576) (hx : Rd w ao xs) (hy : Rd w bo ys) :
    Calls Try.prog 16 #[.slice ao xs.length ca, .slice bo ys.length cb] w fun e w' => e = .returned (.bool (decide (xs = ys))) ∧ Dn w w' := by
  go_enter Try.func16, Try.ntmps16
  by_cases hne : xs.length = ys.length
  · have h1 : ((xs.length : Int) != (ys.length : Int)) = false := by simp [hne]
    have hlen := Lib.hid hne
    clear hne
    go_wp2
    go_loopw [5] (fun i wr => ∃ k : Nat, k ≤ xs.length ∧ i = .int .i64 k ∧ xs.take k = ys.take k ∧ Dn w wr)
      (fun i _ => xs.length - (intOf i).toNat)
    case atStart => exact ⟨0, Nat.zero_le _, rfl, rfl, Dn.refl _⟩
    case round =>
      obtain ⟨k, hk, rfl, ht, hd⟩ := hrel
      have HT := Lib.hid ht
      clear ht
      by_cases hlt : k < xs.length
      · have hlt2 : k < ys.length := by rw [← hlen.out]; exact hlt
        obtain ⟨b, off, x, hxk, rfl, hbl, hc1⟩ := (hd.rd hx).get k hlt
        obtain ⟨b2, off2, y, hyk, rfl, hbl2, hc2⟩ := (hd.rd hy).get k hlt2
        have hi1 : ((k : Nat) : Int) < (xs.length : Int) := by omega
        have hi2 : ((k : Nat) : Int) < (ys.length : Int) := by omega
        have HX := Lib.hid hxk
        have HY := Lib.hid hyk
        clear hx hy hxk hyk
        go_wp2
        go_quiet (fail)
        by_cases heq : x = y
        · have h2 : (x != y) = false := by simp [heq]
          have HE := Lib.hid heq
          clear heq
          go_wp2
          go_roundw
          case rel =>
            refine ⟨k + 1, by omega, by go_num, ?_, hd.trans (Dn.drewN _ _)⟩
            rw [List.take_add_one, List.take_add_one, HT.out, HX.out, HY.out, HE.out]
          case measure => simp [intOf]; omega
        · go_wp2
          go_ret
          have hd' : ¬ xs = ys := by
            rintro rfl
            have := HX.out.symm.trans HY.out
            exact heq (by simpa using this)
          exact ⟨by simp [hd'], hd.trans (Dn.drewN _ _)⟩
      · go_wp2
        go_ret
        obtain rfl : k = xs.length := by omega
        have := HT.out
        rw [List.take_length, hlen.out, List.take_length] at this
        exact ⟨by simp [this], hd⟩
  · have h1 : ((xs.length : Int) != (ys.length : Int)) = true := by simp; omega
    go_wp2
    go_ret
    refine ⟨?_, Dn.refl _⟩
    have : ¬ xs = ys := fun h => hne (by rw [h])
    simp [this]
end Go.Proofs.Ytcdiicckngndcaa
