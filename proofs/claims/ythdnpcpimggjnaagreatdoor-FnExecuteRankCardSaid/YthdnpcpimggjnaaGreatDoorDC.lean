/-
  Contracts of the model's l3Has and l3Text, for whatever texts.
-/
import Derived.Test.YthdnpcpimggjnaaGreatDoorX
import Derived.Laws.Bits64
namespace Go.Proofs.YthdnpcpimggjnaaGreatDoor
open Go.RowKit

/-- the slice at this address reads as these bytes -/
def RdB (w : World) (ao : Option Addr) (bs : List Nat) : Prop :=
  ∀ (k x : Nat), bs[k]? = some x → x < 256 ∧ ∃ b off, ao = some ⟨b, off, none⟩ ∧ b < w.heap.size ∧ w.cell? ⟨b, off + k, none⟩ = some (.int .u8 x)

/-- a reader in a block of its own -/
def RdrAt (w : World) (R : Nat) (ao : Option Addr) (n c p : Nat) : Prop :=
  w.heap[R]? = some (.cells #[.slice ao n c, .int .i64 p] 98)

theorem RdrAt.cell0 {w : World} {R : Nat} {ao : Option Addr} {n c p : Nat} (h : RdrAt w R ao n c p) : w.cell? ⟨R, 0, none⟩ = some (.slice ao n c) := by
  simp [World.cell?, show w.heap[R]? = _ from h]
theorem RdrAt.cell1 {w : World} {R : Nat} {ao : Option Addr} {n c p : Nat} (h : RdrAt w R ao n c p) : w.cell? ⟨R, 1, none⟩ = some (.int .i64 p) := by
  simp [World.cell?, show w.heap[R]? = _ from h]
theorem RdrAt.free {w : World} {R : Nat} {ao : Option Addr} {n c p : Nat} (h : RdrAt w R ao n c p) (j : Nat) : w.frozen? ⟨R, j, none⟩ = false := by
  simp [World.frozen?, show w.heap[R]? = _ from h]

theorem xorI (X Y : Nat) (hX : X < 4294967296) (hY : Y < 4294967296) : ∃ Z : Nat, bits .xor .i64 (X : Int) (Y : Int) = (Z : Int) ∧ Z < 4294967296 := by
  have hx : X ^^^ Y < 2 ^ 32 := Nat.xor_lt_two_pow (by omega) (by omega)
  have h1 : (BitVec.ofInt 64 (X : Int)).toNat = X := by
    rw [BitVec.ofInt_natCast, BitVec.toNat_ofNat]; exact Nat.mod_eq_of_lt (by omega)
  have h2 : (BitVec.ofInt 64 (Y : Int)).toNat = Y := by
    rw [BitVec.ofInt_natCast, BitVec.toNat_ofNat]; exact Nat.mod_eq_of_lt (by omega)
  refine ⟨X ^^^ Y, ?_, by omega⟩
  show IntKind.i64.wrap ((BitVec.ofInt 64 (X : Int) ^^^ BitVec.ofInt 64 (Y : Int)).toNat : Int) = _
  rw [BitVec.toNat_xor, h1, h2]
  simp only [IntKind.wrap, IntKind.bits, IntKind.signed]
  obtain ⟨q, hq⟩ : ∃ q, X ^^^ Y = q := ⟨_, rfl⟩
  rw [hq] at hx ⊢
  simp only [Bool.true_and]
  rw [if_neg (by intro hh; have := of_decide_eq_true hh; omega)]
  omega

theorem pick_any (R : Nat) (ao : Option Addr) (c : Nat) (bs : List Nat) (p m : Nat) (w : World) (hR : RdrAt w R ao bs.length c p) (hb : RdB w ao bs) (hbR : bs ≠ [] → ∀ a, ao = some a → a.block ≠ R)
    (hl : bs.length ≤ 2000) (hp : p ≤ 1048576) (h1 : 1 ≤ m) (hm : m ≤ 1048576) :
    Calls Tryz.prog 35 #[.pointer (some ⟨R, 0, none⟩), .int .i64 m] w fun e w' => ∃ k : Nat, k < m ∧ e = .returned (.int .i64 k) ∧ Dn (w.setCell ⟨R, 1, none⟩ (.int .i64 (p + 1 : Nat))) w' := by
  have p0 := hR.cell0
  have p1 := hR.cell1
  have f1 := hR.free 1
  by_cases h0 : bs.length = 0
  · have e1 : ((bs.length : Int) == 0) = true := by rw [h0]; rfl
    have hm1 : decide ((m : Int) < 1) = false := decide_eq_false (by omega)
    go_enter Tryz.func35, Tryz.ntmps35
    go_wp2
    go_ret
    exact ⟨0, h1, rfl, by push_cast; exact Dn.refl _⟩
  · have e1 : ((bs.length : Int) == 0) = false := beq_eq_false_iff_ne.2 (by omega)
    have hm1 : decide ((m : Int) < 1) = false := decide_eq_false (by omega)
    by_cases hlt : p < bs.length
    · obtain ⟨hx, b, off, rfl, hbl, hc⟩ := hb p _ (List.getElem?_eq_getElem hlt)
      have hbne : b ≠ R := hbR (fun e => h0 (by rw [e]; rfl)) _ rfl
      have hj : ((p : Nat) : Int) < (bs.length : Int) := by omega
      have hc1 : (w.setCell ⟨R, 1, none⟩ (.int .i64 ((p : Int) + 1))).cell? ⟨b, off + p, none⟩ = some (.int .u8 bs[p]) := by
        rw [← hc]; exact World.cell?_of_block (Below.heap_setCell _ _ _ _ hbne)
      obtain ⟨x, hxe⟩ : ∃ x, bs[p] = x := ⟨_, rfl⟩
      rw [hxe] at hx hc hc1
      clear hxe hb hbR hc
      go_enter Tryz.func35, Tryz.ntmps35
      go_wp2
      go_ret
      exact ⟨x % m, Nat.mod_lt _ h1, by push_cast; rfl, by push_cast; exact Dn.refl _⟩
    · have hq1 : p % bs.length < bs.length := Nat.mod_lt _ (by omega)
      have hq2 : (p * 7 + 3) % bs.length < bs.length := Nat.mod_lt _ (by omega)
      obtain ⟨hx, b, off, rfl, hbl, hc⟩ := hb _ _ (List.getElem?_eq_getElem hq1)
      obtain ⟨hy, b', off', hbo, _, hd⟩ := hb _ _ (List.getElem?_eq_getElem hq2)
      simp only [Option.some.injEq, Addr.mk.injEq, and_true] at hbo
      obtain ⟨rfl, rfl⟩ := hbo
      have hbne : b ≠ R := hbR (fun e => h0 (by rw [e]; rfl)) _ rfl
      have hj1 : ((p : Nat) : Int) % (bs.length : Int) < (bs.length : Int) := by omega
      have hj2 : (((p : Nat) : Int) * 7 + 3) % (bs.length : Int) < (bs.length : Int) := Int.emod_lt_of_pos _ (by omega)
      have hj3 : 0 ≤ ((p : Nat) : Int) % (bs.length : Int) := by omega
      have hj4 : 0 ≤ (((p : Nat) : Int) * 7 + 3) % (bs.length : Int) := Int.emod_nonneg _ (by omega)
      have hdv0 : 0 ≤ ((p : Nat) : Int) / (bs.length : Int) := Int.ediv_nonneg (by omega) (by omega)
      have hdv1 : ((p : Nat) : Int) / (bs.length : Int) ≤ 1048576 := Int.le_trans (Int.ediv_le_self _ (by omega)) (by omega)
      have hc1 : (w.setCell ⟨R, 1, none⟩ (.int .i64 ((p : Int) + 1))).cell? ⟨b, off + p % bs.length, none⟩ = some (.int .u8 bs[p % bs.length]) := by
        rw [← hc]; exact World.cell?_of_block (Below.heap_setCell _ _ _ _ hbne)
      have hd1 : (w.setCell ⟨R, 1, none⟩ (.int .i64 ((p : Int) + 1))).cell? ⟨b, off + (p * 7 + 3) % bs.length, none⟩ = some (.int .u8 bs[(p * 7 + 3) % bs.length]) := by
        rw [← hd]; exact World.cell?_of_block (Below.heap_setCell _ _ _ _ hbne)
      obtain ⟨x, hxe⟩ : ∃ x, bs[p % bs.length] = x := ⟨_, rfl⟩
      obtain ⟨y, hye⟩ : ∃ x, bs[(p * 7 + 3) % bs.length] = x := ⟨_, rfl⟩
      rw [hxe] at hx hc hc1
      rw [hye] at hy hd hd1
      clear hxe hye hb hbR hc hd
      go_enter Tryz.func35, Tryz.ntmps35
      go_wp2
      go_quiet (fail)
      obtain ⟨X, hX, hXl⟩ : ∃ X : Nat, ((x : Int) * 131 + (y : Int) * 1117 + (p : Int) * 29 + (p : Int) / (bs.length : Int) * 53) = (X : Int) ∧ X < 4294967296 := ⟨((x : Int) * 131 + (y : Int) * 1117 + (p : Int) * 29 + (p : Int) / (bs.length : Int) * 53).toNat, by omega, by omega⟩
      rw [hX]
      obtain ⟨Z, hZ, hZl⟩ := xorI X (X / 64) hXl (by omega)
      push_cast at hZ
      clear hX hc1 hd1 hj1 hj2 hj3 hj4 hdv0 hdv1
      go_wp2
      go_ret
      exact ⟨Z % m, Nat.mod_lt _ h1, by push_cast; rfl, by push_cast; exact Dn.drewN _ _⟩
theorem RdrAt.next {w w' : World} {R : Nat} {ao : Option Addr} {n c p : Nat} (h : RdrAt w R ao n c p) (hd : Dn (w.setCell ⟨R, 1, none⟩ (.int .i64 (p + 1 : Nat))) w') : RdrAt w' R ao n c (p + 1) := by
  unfold RdrAt
  rw [hd.heap]
  have hlt : R < w.heap.size := (Array.getElem?_eq_some_iff.1 h).1
  have h2 : w.heap[R] = .cells #[.slice ao n c, .int .i64 p] 98 := (Array.getElem?_eq_some_iff.1 h).2
  simp [World.setCell, hlt, h2, Array.getElem_modify]

theorem RdB.take {w : World} {ao : Option Addr} {bs : List Nat} (h : RdB w ao bs) (n : Nat) : RdB w ao (bs.take n) := by
  intro k x hk
  rw [List.getElem?_take] at hk
  split at hk
  · exact h k x hk
  · cases hk
theorem RdB.below {w w' : World} {ao : Option Addr} {bs : List Nat} (h : RdB w ao bs) (hb : Below w.heap.size w w') : RdB w' ao bs := by
  intro k x hx
  obtain ⟨h0, b, off, h1, h2, h3⟩ := h k x hx
  exact ⟨h0, b, off, h1, Nat.lt_of_lt_of_le h2 hb.size, (hb.cell (p := ⟨b, off + k, none⟩) h2).trans h3⟩

theorem open_any (ao : Option Addr) (c : Nat) (bs : List Nat) (w : World) (hc : bs.length ≤ c) :
    Calls Tryz.prog 33 #[.slice ao bs.length c] w fun e w' => ∃ bs', bs' = bs.take 2000 ∧ e = .returned (.pointer (some ⟨w.heap.size, 0, none⟩)) ∧ RdrAt w' w.heap.size ao bs'.length c 0 ∧ Below w.heap.size w w' := by
  by_cases h : bs.length ≤ 2000
  · go_enter Tryz.func33, Tryz.ntmps33
    go_wp2
    go_ret
    exact ⟨_, rfl, rfl, by rw [List.take_of_length_le h]; exact World.alloc_heap_new w _, below_one _ _⟩
  · go_enter Tryz.func33, Tryz.ntmps33
    go_wp2
    go_ret
    exact ⟨_, rfl, rfl, by rw [List.length_take, Nat.min_eq_left (by omega)]; exact World.alloc_heap_new w _, below_one _ _⟩
end Go.Proofs.YthdnpcpimggjnaaGreatDoor

namespace Go.Proofs.YthdnpcpimggjnaaGreatDoor
open Go.RowKit

/-- all numbers are sets of at most four points -/
def In16 (xs : List Int) : Prop := ∀ k, ∃ z : Fin 16, rowAt xs k = (z.val : Int)
theorem In16.rel {xs : List Int} (h : relIn xs = true) : In16 xs := row16 h
theorem or1616 : ∀ z y : Fin 16, ∃ u : Fin 16, bits .or .i64 (z.val : Int) (y.val : Int) = (u.val : Int) := by decide +kernel
theorem imgTo16 {ys : List Int} (h : In16 ys) (set : Int) : ∀ k, ∃ z : Fin 16, imgTo ys set k = (z.val : Int)
  | 0 => ⟨0, rfl⟩
  | k + 1 => by
    rw [imgTo_succ]
    obtain ⟨z, hz⟩ := imgTo16 h set k
    split
    · obtain ⟨y, hy⟩ := h k
      rw [hz, hy]
      exact or1616 z y
    · exact ⟨z, hz⟩

/-- rows of rows, joined -/
def compL (xs ys : List Int) : List Int := xs.map fun x => imgTo ys x ys.length
theorem compL_len (xs ys : List Int) : (compL xs ys).length = xs.length := List.length_map _
theorem rowAt_map (f : Int → Int) (xs : List Int) (k : Nat) (hk : k < xs.length) : rowAt (xs.map f) k = f (rowAt xs k) := by
  have h1 := rowAt_get hk
  have h2 := rowAt_get (xs := xs.map f) (k := k) (by simpa using hk)
  rw [List.getElem?_map, h1] at h2
  simpa using h2.symm
theorem rowAt_out (xs : List Int) (k : Nat) (hk : ¬ k < xs.length) : rowAt xs k = 0 := by
  unfold rowAt
  rw [List.getD_eq_getElem?_getD, List.getElem?_eq_none (by omega)]
  rfl
theorem compL16 {xs ys : List Int} (h : In16 ys) : In16 (compL xs ys) := by
  intro k
  by_cases hk : k < xs.length
  · unfold compL; rw [rowAt_map _ _ _ hk]; exact imgTo16 h _ _
  · exact ⟨0, rowAt_out _ _ (by rw [compL_len]; exact hk)⟩
theorem compL_take {xs ys : List Int} (k : Nat) (hk : k < xs.length) : (compL xs ys).take (k + 1) = (compL xs ys).take k ++ [imgTo ys (rowAt xs k) ys.length] := by
  have h : (compL xs ys)[k]? = some (imgTo ys (rowAt xs k) ys.length) := by
    unfold compL; rw [List.getElem?_map, rowAt_get hk]; rfl
  rw [List.take_add_one, h]
  rfl

set_option maxHeartbeats 1000000 in
theorem l2Comp_any (ao bo : Option Addr) (ca cb : Nat) (xs ys : List Int) (w : World) (h4 : xs.length ≤ 4) (h5 : ys.length ≤ 4) (hs : In16 xs) (hx : Rd w ao xs) (hy : Rd w bo ys) :
    Calls Tryz.prog 54 #[.slice ao xs.length ca, .slice bo ys.length cb] w fun e w' => ∃ v, e = .returned v ∧
      w'.ownsRow w.heap.size 3 1 v xs.length ((compL xs ys).map (Value.int .i64)) ∧ Below w.heap.size w w' := by
  obtain ⟨i0, hi, hz0, hz1, hz2⟩ := info_parts Tryz.info3
  go_enter Tryz.func54, Tryz.ntmps54
  go_wp2
  go_loopw [5, 6] (fun v i wr => ∃ k : Nat, k ≤ xs.length ∧ i = .int .i64 k ∧ wr.ownsRow w.heap.size 3 1 v k (((compL xs ys).take k).map (Value.int .i64)) ∧ Below w.heap.size w wr)
    (fun _ i _ => xs.length - (intOf i).toNat)
  case atStart => exact ⟨0, Nat.zero_le _, rfl, row_lit0 w, below_one _ _⟩
  case round =>
    obtain ⟨k, hk, rfl, ho, hb⟩ := hrel
    by_cases hlt : k < xs.length
    · obtain ⟨b, off, x, hxk, rfl, hbl, hc1⟩ := (hx.below hb).get k hlt
      have hyb := hy.below hb
      obtain ⟨z, hz⟩ := hs k
      have hxy : x = (z.val : Int) := by
        have := rowAt_get hlt
        rw [hxk, hz] at this
        simpa using this
      rw [hxy] at hc1
      have hi1 : ((k : Nat) : Int) < (xs.length : Int) := by omega
      have ht := compL_take (xs := xs) (ys := ys) k hlt
      rw [hz] at ht
      have HT := Lib.hid ht
      clear hx hy hxk hxy hz ht
      go_wp2_with fail
      refine (l1Image_any bo cb ys z.val _ z.isLt h5 hyb).mono ?_
      rintro e w1 ⟨rfl, hd⟩
      clear hc1 hyb
      have ho1 := hd.row ho
      have hb1 := hb.trans (hd.below _)
      have hs1 := hb1.size
      go_wp2_with (at_builtin; refine wpList_append_own _ rfl (.tmp 14) (.tmp 21) 23 rfl w.heap.size 3 i0 (.int .i64 0) 1 8 Tryz.underlying23 hi hz0 hz1 hz2 rfl (by decide) _ _ _ rfl (ho1.alloc _) ⟨w1.heap.size, 0, none⟩ 1 1 [_] rfl rfl (cell_one_new _ _ _) (by simp [Value.oneCell']) (by unfold maxLen; omega) (by omega) (by simp; omega) ?_)
      intro v' w2 hown' hgrow _
      have hb' := own_step' ho1 hb1 hs1 _ hgrow
      rw [← List.map_take, ← List.map_singleton (f := Value.int .i64), ← List.map_append, ← HT.out] at hown'
      clear ho hb ho1 hb1 hgrow
      go_wp2
      go_roundw
      case rel => exact ⟨k + 1, by omega, by go_num, hown', hb'⟩
      case measure => simp [intOf]; omega
    · go_wp2
      go_ret
      obtain rfl : k = xs.length := by omega
      rw [List.take_of_length_le (by rw [compL_len]; omega)] at ho
      exact ⟨_, rfl, ho, hb⟩

/-- one more power added, and again -/
def reachTo (xs : List Int) : Nat → List Int
  | 0 => xs
  | k + 1 => zipI (bits .or .i64) (reachTo xs k) (compL (reachTo xs k) xs)
def reachL (xs : List Int) : List Int := reachTo xs xs.length
theorem reachTo_len (xs : List Int) : ∀ k, (reachTo xs k).length = xs.length
  | 0 => rfl
  | k + 1 => by unfold reachTo zipI; rw [List.length_zipWith, compL_len, reachTo_len xs k, Nat.min_self]
theorem zipAt (f : Int → Int → Int) (xs ys : List Int) (k : Nat) (h1 : k < xs.length) (h2 : k < ys.length) : rowAt (zipI f xs ys) k = f (rowAt xs k) (rowAt ys k) := by
  have h := rowAt_get (xs := zipI f xs ys) (k := k) (by unfold zipI; rw [List.length_zipWith]; omega)
  unfold zipI at h
  rw [List.getElem?_zipWith, rowAt_get h1, rowAt_get h2] at h
  exact (Option.some.inj h).symm
theorem reachTo16 {xs : List Int} (h : In16 xs) : ∀ k, In16 (reachTo xs k)
  | 0 => h
  | k + 1 => fun i => by
    by_cases hi : i < xs.length
    · have e : rowAt (reachTo xs (k + 1)) i = bits .or .i64 (rowAt (reachTo xs k) i) (rowAt (compL (reachTo xs k) xs) i) := zipAt _ _ _ _ (by rw [reachTo_len]; exact hi) (by rw [compL_len, reachTo_len]; exact hi)
      obtain ⟨z, hz⟩ := reachTo16 h k i
      obtain ⟨y, hy⟩ := compL16 (xs := reachTo xs k) h i
      rw [e, hz, hy]
      exact or1616 z y
    · exact ⟨0, rowAt_out _ _ (by rw [reachTo_len]; exact hi)⟩

theorem own_keep {w w' : World} {lo B n : Nat} {v : Value} {us : List Value} (h : w.ownsRow lo 3 1 v n us) (hb : Below B w w') (hB : ∀ k, v.ownBlock = some k → k < B) : w'.ownsRow lo 3 1 v n us := by
  refine ⟨h.1, ?_⟩
  rcases h.2 with h2 | ⟨g, cap, cur, rfl, h2, h3, h4⟩
  · exact .inl h2
  · exact .inr ⟨g, cap, cur, rfl, h2, (hb.block g (hB g rfl)).trans h3, h4⟩
theorem own_form {w : World} {lo n : Nat} {v : Value} {us : List Value} (h : w.ownsRow lo 3 1 v n us) (hn : 1 ≤ n) : ∃ g cap, v = .slice (some ⟨g, 0, none⟩) n cap ∧ lo ≤ g ∧ g < w.heap.size := by
  rcases h.2 with ⟨_, h2⟩ | ⟨g, cap, cur, rfl, _⟩
  · omega
  · exact ⟨g, cap, rfl, (h.lt g rfl).1, (h.lt g rfl).2⟩
theorem rd_own {w : World} {lo g cap : Nat} {xs : List Int} {n : Nat} (h : w.ownsRow lo 3 1 (.slice (some ⟨g, 0, none⟩) n cap) n (xs.map (Value.int .i64))) (hn : xs.length = n) : Rd w (some ⟨g, 0, none⟩) xs := by
  subst hn
  obtain ⟨ao, c, he, hr⟩ := row_rd h
  cases he
  exact hr

theorem l2Reach_at (xs : List Int) (k j : Nat) (hj : j < xs.length) : (reachTo xs (k + 1))[j]? = some (bits .or .i64 (rowAt (reachTo xs k) j) (rowAt (compL (reachTo xs k) xs) j)) := by
  have h := rowAt_get (xs := reachTo xs (k + 1)) (k := j) (by rw [reachTo_len]; exact hj)
  rw [h]
  exact congrArg some (zipAt _ _ _ _ (by rw [reachTo_len]; exact hj) (by rw [compL_len, reachTo_len]; exact hj))

set_option maxHeartbeats 4000000 in
theorem l2Reach_any (ao : Option Addr) (ca : Nat) (xs : List Int) (w : World) (h1 : 1 ≤ xs.length) (h4 : xs.length ≤ 4) (hs : In16 xs) (hx : Rd w ao xs) :
    Calls Tryz.prog 105 #[.slice ao xs.length ca] w fun e w' => ∃ v, e = .returned v ∧
      w'.ownsRow w.heap.size 3 1 v xs.length ((reachL xs).map (Value.int .i64)) ∧ Below w.heap.size w w' := by
  obtain ⟨i0, hi, hz0, hz1, hz2⟩ := info_parts Tryz.info3
  obtain ⟨b0, off0, _, _, rfl, hbl0, _⟩ := hx.get 0 (by omega)
  have hnews : ∀ (j : Nat) (u : Value), (xs.map (Value.int .i64))[j]? = some u → (w.alloc (.cells #[] 3)).cell? ((⟨b0, off0, none⟩ : Addr).add j) = some u := by
    intro j u hu
    rw [List.getElem?_map] at hu
    cases hxj : xs[j]? with
    | none => rw [hxj] at hu; cases hu
    | some y =>
      rw [hxj] at hu
      cases hu
      obtain ⟨b, off, he, _, hc⟩ := (hx.below (below_one w (.cells #[] 3))) j y hxj
      cases he
      simp only [Addr.add]
      split
      · rename_i h0
        subst h0
        exact hc
      · exact hc
  have HNEWS := Lib.hid hnews
  have HS := Lib.hid hs
  clear hnews hs
  go_enter Tryz.func105, Tryz.ntmps105
  go_wp2_with (at_builtin; refine wpList_append_own _ rfl (.tmp 7) (.tmp 8) 23 rfl w.heap.size 3 i0 (.int .i64 0) 1 8 Tryz.underlying23 hi hz0 hz1 hz2 rfl (by decide) _ _ _ rfl (row_lit0 w) ⟨b0, off0, none⟩ xs.length ca (xs.map (Value.int .i64)) rfl (by simp) HNEWS.out (by simp [Value.oneCell']) (by unfold maxLen; omega) (by omega) (by simp) ?_)
  intro v0 w1 hown hgrow _
  have hB1 : Below w.heap.size w w1 := (below_one w (.cells #[] 3)).grown hgrow (by simp) (fun k hk => ((row_lit0 w).lt k hk).1)
  obtain ⟨g, cap, rfl, hg1, hg2⟩ := own_form hown h1
  clear hgrow HNEWS hbl0
  go_wp2
  go_loopw [4, 5, 6] (fun i _ _ wr => ∃ k : Nat, k ≤ xs.length ∧ i = .int .i64 k ∧ wr.ownsRow w.heap.size 3 1 (.slice (some ⟨g, 0, none⟩) xs.length cap) xs.length ((reachTo xs k).map (Value.int .i64)) ∧ Below w.heap.size w wr)
    (fun i _ _ _ => xs.length - (intOf i).toNat)
  case atStart => exact ⟨0, Nat.zero_le _, rfl, hown, hB1⟩
  case round =>
    clear hown hB1
    obtain ⟨k, hk, rfl, ho, hB⟩ := hrel
    obtain ⟨wo, rfl⟩ : ∃ wo : World, wo = wr := ⟨_, rfl⟩
    have hgo := (ho.lt g rfl).2
    by_cases hlt : k < xs.length
    · have hc := l2Comp_any (some ⟨g, 0, none⟩) (some ⟨b0, off0, none⟩) cap ca (reachTo xs k) xs wo (by rw [reachTo_len]; exact h4) h4 (reachTo16 HS.out k) (rd_own ho (reachTo_len _ _)) (hx.below hB)
      rw [reachTo_len] at hc
      have hi1 : ((k : Nat) : Int) < (xs.length : Int) := by omega
      go_wp2_with fail
      refine hc.mono ?_
      rintro e w2 ⟨vm, rfl, hm, hb2⟩
      obtain ⟨g2, cap2, rfl, hg3, hg4⟩ := own_form hm h1
      have ho2 := own_keep ho hb2 (fun q hq => by cases hq; exact hgo)
      have hB2 := hB.trans (hb2.mono hB.size)
      clear ho hc
      go_wp2
      go_loopw [6] (fun j wr => ∃ (k2 : Nat) (zs : List Int), k2 ≤ xs.length ∧ j = .int .i64 k2 ∧ Mix (reachTo xs k) (reachTo xs (k + 1)) k2 zs ∧ wr.ownsRow w.heap.size 3 1 (.slice (some ⟨g, 0, none⟩) xs.length cap) xs.length (zs.map (Value.int .i64)) ∧ wr.ownsRow wo.heap.size 3 1 (.slice (some ⟨g2, 0, none⟩) xs.length cap2) xs.length ((compL (reachTo xs k) xs).map (Value.int .i64)) ∧ Below w.heap.size w wr)
        (fun j _ => xs.length - (intOf j).toNat)
      case atStart => exact ⟨0, _, Nat.zero_le _, rfl, Mix.zero _ _, ho2, hm, hB2⟩
      case round =>
        clear ho2 hm hB2
        obtain ⟨j, zs, hj, rfl, hmix, ho, hm, hB2⟩ := hrel
        by_cases hlj : j < xs.length
        · have hzl : zs.length = xs.length := hmix.1.trans (reachTo_len _ _)
          have hc1 := ho.cellAt j (by omega)
          have hf1 := ho.frozenAt j
          have hc2 := hm.cellAt j (by omega)
          have hz1' : (zs.map (Value.int .i64))[j]? = some (.int .i64 (rowAt zs j)) := by rw [List.getElem?_map, rowAt_get (by omega)]; rfl
          have hz2' : ((compL (reachTo xs k) xs).map (Value.int .i64))[j]? = some (.int .i64 (rowAt (compL (reachTo xs k) xs) j)) := by rw [List.getElem?_map, rowAt_get (by rw [compL_len, reachTo_len]; exact hlj)]; rfl
          rw [hz1', hmix.at] at hc1
          rw [hz2'] at hc2
          have hstep := hmix.step (v := bits .or .i64 (rowAt (reachTo xs k) j) (rowAt (compL (reachTo xs k) xs) j)) (by rw [reachTo_len]; exact hlj) (l2Reach_at xs k j hlj)
          obtain ⟨u, hu⟩ : ∃ u, rowAt (reachTo xs k) j = u := ⟨_, rfl⟩
          obtain ⟨y, hy⟩ : ∃ y, rowAt (compL (reachTo xs k) xs) j = y := ⟨_, rfl⟩
          rw [hu] at hc1 hstep
          rw [hy] at hc2 hstep
          have hj1 : ((j : Nat) : Int) < (xs.length : Int) := by omega
          have HSTEP := Lib.hid hstep
          clear hmix hx hz1' hz2' hstep hu hy
          go_wp2
          go_region
          all_goals
            go_wp2
            go_roundw
            case rel =>
              refine ⟨j + 1, _, by omega, by go_num, HSTEP.out, ?_, (ownsRow_setCell_below hm.drew (by simp; omega) _), hB2.drew.setCell (by simp; omega) _⟩
              have h := (ho.stored j (.int .i64 (bits .or .i64 u y))).1
              rw [← List.map_set] at h
              exact h.drew
            case measure => simp [intOf]; omega
        · obtain rfl : j = xs.length := by omega
          have hfull : zs = reachTo xs (k + 1) := Mix.full (xs := reachTo xs k) (by rw [reachTo_len xs k]; exact hmix) (by rw [reachTo_len xs (k + 1), reachTo_len xs k])
          rw [hfull] at ho
          go_wp2
          go_roundw
          case rel => exact ⟨k + 1, by omega, by go_num, ho, hB2⟩
          case measure => simp [intOf]; omega
    · obtain rfl : k = xs.length := by omega
      go_wp2
      go_ret
      exact ⟨_, rfl, ho, hB⟩
end Go.Proofs.YthdnpcpimggjnaaGreatDoor

namespace Go.Proofs.YthdnpcpimggjnaaGreatDoor
open Go.RowKit

/-- a byte of a text -/
def byt (st : ByteArray) (i : Nat) : Nat := if h : i < st.size then st[i].toNat else 0
theorem byt_at (st : ByteArray) (i : Nat) (h : i < st.size) : st[i].toNat = byt st i := by unfold byt; rw [dif_pos h]
/-- whether one of the first k bytes of a text is this one -/
def hasTo (st : ByteArray) (c k : Nat) : Bool := (List.range k).any fun i => decide (byt st i = c)
theorem hasTo_succ (st : ByteArray) (c k : Nat) : hasTo st c (k + 1) = (hasTo st c k || decide (byt st k = c)) := by
  unfold hasTo
  rw [List.range_succ, List.any_append]
  simp
theorem hasTo_yes (st : ByteArray) (c k n : Nat) (hk : k < n) (h : byt st k = c) : hasTo st c n = true := by
  unfold hasTo
  rw [List.any_eq_true]
  exact ⟨k, List.mem_range.2 hk, decide_eq_true h⟩

theorem l3Has_any (st : ByteArray) (c : Nat) (w : World) (hl : st.size ≤ 1048576) :
    Calls Tryz.prog 174 #[.string st, .int .u8 c] w fun e w' => e = .returned (.bool (hasTo st c st.size)) ∧ w = w' := by
  go_enter Tryz.func174, Tryz.ntmps174
  go_wp2
  go_loopw [5] (fun i wr => ∃ k : Nat, k ≤ st.size ∧ i = .int .i64 k ∧ hasTo st c k = false ∧ wr = w)
    (fun i _ => st.size - (intOf i).toNat)
  case atStart => exact ⟨0, Nat.zero_le _, rfl, rfl, rfl⟩
  case round =>
    obtain ⟨k, hk, rfl, hf, rfl⟩ := hrel
    by_cases hlt : k < st.size
    · have hb := byt_at st k hlt
      obtain ⟨x, hx⟩ : ∃ x, byt st k = x := ⟨_, rfl⟩
      rw [hx] at hb
      have hs := hasTo_succ st c k
      rw [hf, hx] at hs
      by_cases hxc : x = c
      · subst hxc
        have hy := hasTo_yes st x k st.size hlt hx
        have HY := Lib.hid hy
        clear hs hy hf hx
        go_wp2
        go_ret
        exact ⟨by rw [HY.out]; rfl, rfl⟩
      · have e1 : (((x : Nat) : Int) == (c : Int)) = false := beq_eq_false_iff_ne.2 (by omega)
        rw [decide_eq_false hxc] at hs
        have HS := Lib.hid hs
        clear hs hf hx hxc
        go_wp2
        go_roundw
        case rel => exact ⟨k + 1, by omega, by go_num, HS.out, trivial⟩
        case measure => simp [intOf]; omega
    · have hf2 : hasTo st c st.size = false := by rw [show st.size = k by omega]; exact hf
      have HF := Lib.hid hf2
      clear hf hf2
      go_wp2
      go_ret
      exact ⟨by rw [HF.out]; rfl, rfl⟩

/-- a letter of a text at a place: one of the letters, and none of those ahead of it -/
def letB (st lt : ByteArray) (i : Nat) : Bool := hasTo lt (byt st i) lt.size && !hasTo st (byt st i) i
/-- the first k letters are in order -/
def textTo (st lt : ByteArray) (k : Nat) : Bool := (List.range k).all (letB st lt)
theorem textTo_succ (st lt : ByteArray) (k : Nat) : textTo st lt (k + 1) = (textTo st lt k && letB st lt k) := by
  unfold textTo
  rw [List.range_succ, List.all_append]
  simp
theorem textTo_no (st lt : ByteArray) (k n : Nat) (hk : k < n) (h : letB st lt k = false) : textTo st lt n = false := by
  unfold textTo
  rw [List.all_eq_false]
  exact ⟨k, List.mem_range.2 hk, by rw [h]; simp⟩

set_option maxHeartbeats 4000000 in
theorem l3Text_any (st lt : ByteArray) (w : World) (hl : st.size ≤ 1048576) (hl2 : lt.size ≤ 1048576) :
    Calls Tryz.prog 173 #[.string st, .string lt] w fun e w' => e = .returned (.bool (textTo st lt st.size)) ∧ Dn w w' := by
  go_enter Tryz.func173, Tryz.ntmps173
  go_wp2
  go_loopw [5, 6, 7, 8] (fun i _ _ _ wr => ∃ k : Nat, k ≤ st.size ∧ i = .int .i64 k ∧ textTo st lt k = true ∧ Dn w wr)
    (fun i _ _ _ _ => st.size - (intOf i).toNat)
  case atStart => exact ⟨0, Nat.zero_le _, rfl, rfl, Dn.refl _⟩
  case round =>
    obtain ⟨i, hi, rfl, hf, hd⟩ := hrel
    obtain ⟨wo, rfl⟩ : ∃ wo : World, wo = wr := ⟨_, rfl⟩
    by_cases hlt : i < st.size
    · have hb := byt_at st i hlt
      obtain ⟨x, hx⟩ : ∃ x, byt st i = x := ⟨_, rfl⟩
      rw [hx] at hb
      have hi1 : ((i : Nat) : Int) < (st.size : Int) := by omega
      have HX := Lib.hid hx
      have HF := Lib.hid hf
      clear hx hf
      go_wp2
      go_loopw [6, 7] (fun b j wr => ∃ k : Nat, k ≤ lt.size ∧ j = .int .i64 k ∧ b = .bool (hasTo lt x k) ∧ Dn w wr)
        (fun _ j _ => lt.size - (intOf j).toNat)
      case atStart => exact ⟨0, Nat.zero_le _, rfl, rfl, hd⟩
      case round =>
        clear hd
        obtain ⟨j, hj, rfl, rfl, hd⟩ := hrel
        by_cases hlj : j < lt.size
        · have hb2 := byt_at lt j hlj
          obtain ⟨y, hy⟩ : ∃ x, byt lt j = x := ⟨_, rfl⟩
          rw [hy] at hb2
          have hs := hasTo_succ lt x j
          rw [hy] at hs
          have hj1 : ((j : Nat) : Int) < (lt.size : Int) := by omega
          have HS := Lib.hid hs
          clear hs hy
          cases hq : hasTo lt x j with
          | true =>
            rw [hq] at HS
            go_wp2
            go_quiet (fail)
            go_wp2
            go_roundw
            case rel => exact ⟨j + 1, by omega, by go_num, by rw [HS.out]; rfl, hd.trans (Dn.drewN _ _)⟩
            case measure => simp [intOf]; omega
          | false =>
            rw [hq] at HS
            have e1 : (((y : Nat) : Int) == (x : Int)) = decide (y = x) := by
              rw [Bool.eq_iff_iff]; simp; omega
            go_wp2
            go_quiet (fail)
            go_wp2
            go_roundw
            case rel => exact ⟨j + 1, by omega, by go_num, by rw [HS.out]; rfl, hd.trans (Dn.drewN _ _)⟩
            case measure => simp [intOf]; omega
        · obtain rfl : j = lt.size := by omega
          go_wp2
          go_loopw [6, 8] (fun b j wr => ∃ k : Nat, k ≤ i ∧ j = .int .i64 k ∧ b = .bool (hasTo lt x lt.size && !hasTo st x k) ∧ Dn w wr)
            (fun _ j _ => i - (intOf j).toNat)
          case atStart => exact ⟨0, Nat.zero_le _, rfl, by simp [hasTo], hd⟩
          case round =>
            clear hd
            obtain ⟨j, hj, rfl, rfl, hd⟩ := hrel
            by_cases hlj : j < i
            · have hb2 := byt_at st j (by omega)
              obtain ⟨y, hy⟩ : ∃ x, byt st j = x := ⟨_, rfl⟩
              rw [hy] at hb2
              have hs := hasTo_succ st x j
              rw [hy] at hs
              have hj1 : ((j : Nat) : Int) < (st.size : Int) := by omega
              have HS := Lib.hid hs
              clear hs hy
              cases hq : (hasTo lt x lt.size && !hasTo st x j) with
              | true =>
                have e1 : (((y : Nat) : Int) != (x : Int)) = !decide (y = x) := by
                  rw [Bool.eq_iff_iff]; simp; omega
                have HQ := Lib.hid hq
                clear hq
                go_wp2
                go_quiet (fail)
                go_wp2
                go_roundw
                case rel =>
                  have h1 := HQ.out
                  rw [Bool.and_eq_true] at h1
                  have h2 : hasTo st x j = false := by simpa using h1.2
                  exact ⟨j + 1, by omega, by go_num, by rw [HS.out, h1.1, h2]; rfl, hd.trans (Dn.drewN _ _)⟩
                case measure => simp [intOf]; omega
              | false =>
                have HQ := Lib.hid hq
                clear hq
                go_wp2
                go_quiet (fail)
                go_wp2
                go_roundw
                case rel =>
                  have h1 := HQ.out
                  exact ⟨j + 1, by omega, by go_num, by rw [HS.out]; revert h1; cases hasTo lt x lt.size <;> cases hasTo st x j <;> simp, hd.trans (Dn.drewN _ _)⟩
                case measure => simp [intOf]; omega
            · obtain rfl : j = i := by omega
              cases hq : (hasTo lt x lt.size && !hasTo st x j) with
              | true =>
                have h2 : textTo st lt (j + 1) = true := by rw [textTo_succ, HF.out, letB, HX.out, hq]; rfl
                have H2 := Lib.hid h2
                clear hq h2
                go_wp2
                go_roundw
                case rel => exact ⟨j + 1, by omega, by go_num, H2.out, hd⟩
                case measure => simp [intOf]; omega
              | false =>
                have h2 : textTo st lt st.size = false := textTo_no st lt j _ hlt (by rw [letB, HX.out, hq])
                have H2 := Lib.hid h2
                clear hq h2
                go_wp2
                go_ret
                exact ⟨by rw [H2.out]; rfl, hd⟩
    · go_wp2
      go_ret
      obtain rfl : i = st.size := by omega
      exact ⟨by rw [hf]; rfl, hd⟩
end Go.Proofs.YthdnpcpimggjnaaGreatDoor
