/-
  The contract of the laws' sameRows: equality of two lists of lists that read alike.
-/
import Derived.Test.YtnmgoeklcmoalabSI
import Derived.Test.YtnmgoeklcmoalabFE
namespace Go.Proofs.Ytnmgoeklcmoalab
open Go.RowKit

theorem RdS.dn {w w' : World} {ao : Option Addr} {xss : List (List Int)} (h : RdS w ao xss) (hd : Dn w w') : RdS w' ao xss := by
  intro k xs hx
  obtain ⟨b, off, ak, ck, h1, h2, h3, h4⟩ := h k xs hx
  exact ⟨b, off, ak, ck, h1, by rw [hd.heap]; exact h2, by rw [hd.cell]; exact h3, hd.rd h4⟩
set_option maxHeartbeats 2000000 in
theorem sameRows_refl (ao bo : Option Addr) (ca cb : Nat) (xss : List (List Int)) (w : World) (hn : xss.length ≤ 1048576) (hs : ∀ xs, xs ∈ xss → xs.length ≤ 1048576) (hx : RdS w ao xss) (hy : RdS w bo xss) :
    Calls Try.prog 11 #[.slice ao xss.length ca, .slice bo xss.length cb] w fun e w' => e = .returned (.bool true) ∧ Dn w w' := by
  have HX := Lib.hid (And.intro hx (And.intro hy hs))
  have h1 : ((xss.length : Int) != (xss.length : Int)) = false := by simp
  clear hx hy hs
  go_enter Try.func11, Try.ntmps11
  go_wp2
  go_loopw [5] (fun i wr => ∃ j : Nat, j ≤ xss.length ∧ i = .int .i64 j ∧ Dn w wr)
    (fun i _ => xss.length - (intOf i).toNat)
  case atStart => exact ⟨0, Nat.zero_le _, rfl, Dn.refl _⟩
  case round =>
    obtain ⟨j, hj, rfl, hd⟩ := hrel
    by_cases hlt : j < xss.length
    · obtain ⟨xs, hxs⟩ : ∃ xs, xss[j]? = some xs := ⟨_, List.getElem?_eq_getElem hlt⟩
      obtain ⟨b, off, ak, ck, rfl, hb, hc1, hr1⟩ := HX.out.1 j xs hxs
      obtain ⟨b2, off2, ak2, ck2, rfl, hb2, hc2, hr2⟩ := HX.out.2.1 j xs hxs
      rw [← hd.cell] at hc1 hc2
      have hi1 : ((j : Nat) : Int) < (xss.length : Int) := by omega
      have HE := Lib.hid (fun q : Nat => sameInts_refl ak ak2 ck ck2 xs (wr.drewN q) (HX.out.2.2 xs (List.mem_of_getElem? hxs)) ((hd.trans (Dn.drewN wr q)).rd hr1) ((hd.trans (Dn.drewN wr q)).rd hr2))
      clear hr1 hr2 hxs
      go_wp2
      go_quiet ((go_at_call 15; exact quiet_dn (HE.out _)))
      go_wp2
      go_roundw
      case rel => exact ⟨j + 1, by omega, by go_num, hd.trans (Dn.drewN _ _)⟩
      case measure => simp [intOf]; omega
    · go_wp2
      go_ret
      exact ⟨rfl, hd⟩
theorem sameRows_n (ao bo : Option Addr) (ca cb n : Nat) (xss : List (List Int)) (hl : xss.length = n) (w : World) (hn : n ≤ 1048576) (hs : ∀ xs, xs ∈ xss → xs.length ≤ 1048576) (hx : RdS w ao xss) (hy : RdS w bo xss) :
    Calls Try.prog 11 #[.slice ao n ca, .slice bo n cb] w fun e w' => e = .returned (.bool true) ∧ Dn w w' := by
  subst hl
  exact sameRows_refl ao bo ca cb xss w hn hs hx hy
/-- rows of two numbers of the call's own, read -/
theorem own2_rows {w : World} {lo hi n : Nat} {v : Value} {r : Nat → List Int} {gs : Nat → Nat} (h : Own2 w lo hi v n r gs) : ∃ ao cap, v = .slice ao n cap ∧ RdS w ao ((List.range n).map r) := by
  obtain ⟨ao, cap, hv, hc⟩ := h.rd
  refine ⟨ao, cap, hv, fun k ys hk => ?_⟩
  have hlt : k < n := by
    have := (List.getElem?_eq_some_iff.1 hk).1
    simpa using this
  rw [List.getElem?_map, List.getElem?_range hlt] at hk
  cases hk
  obtain ⟨b, hb, hcell⟩ := hc k hlt
  obtain ⟨l2, o2⟩ := h.rows k hlt
  have hrow := o2.row
  have hvb := h.row.lt
  rw [l2] at hrow
  refine ⟨b, 0, some ⟨gs k, 0, none⟩, 2, hb, ?_, ?_, rd_own hrow l2⟩
  · subst hb
    rw [hv] at hvb
    exact (hvb b rfl).2
  · rw [Nat.zero_add, l2]
    exact hcell
theorem rows_two {w : World} {lo hi n : Nat} {v : Value} {r : Nat → List Int} {gs : Nat → Nat} (h : Own2 w lo hi v n r gs) : ∀ xs, xs ∈ (List.range n).map r → xs.length ≤ 1048576 := by
  intro xs hx
  obtain ⟨k, hk, rfl⟩ := List.mem_map.1 hx
  rw [(h.rows k (List.mem_range.1 hk)).1]
  decide
/-- rows of two numbers and a bool -/
def GaveRows (w : World) (n : Nat) (xss : List (List Int)) (ok : Bool) (e : Ending) (w' : World) : Prop :=
  ∃ ao cap, e = .returned (.tuple #[.slice ao n cap, .bool ok]) ∧ RdS w' ao xss ∧ (∀ xs, xs ∈ xss → xs.length = 2) ∧ Below w.heap.size w w'
theorem gave_rows {f : FuncId} {args : Array Value} {w : World} {n : Nat} {r : Nat → List Int} {ok : Bool} (h : Calls Try.prog f args w (Gave2 w n r ok)) : Calls Try.prog f args w (GaveRows w n ((List.range n).map r) ok) := by
  refine h.mono ?_
  rintro e w' ⟨v, gs, rfl, ho, hb⟩
  obtain ⟨ao, cap, rfl, hr⟩ := own2_rows ho
  refine ⟨ao, cap, rfl, hr, fun xs hx => ?_, hb⟩
  obtain ⟨k, hk, rfl⟩ := List.mem_map.1 hx
  exact (ho.rows k (List.mem_range.1 hk)).1
end Go.Proofs.Ytnmgoeklcmoalab
