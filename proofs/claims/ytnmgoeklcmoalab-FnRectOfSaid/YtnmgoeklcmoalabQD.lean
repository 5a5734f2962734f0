/-
  Full rectangles: the model's RectAll; lists of pairs of numbers.
-/
import Derived.Test.YtnmgoeklcmoalabQA
import Derived.Test.YtnmgoeklcmoalabFE
namespace Go.Proofs.Ytnmgoeklcmoalab
open Go.RowKit

/-! pairs of numbers -/
/-- the rows of a list of pairs of numbers -/
def PI (L : List (Int × Int)) (j : Nat) : List Int := match L[j]? with
  | some p => [p.1, p.2]
  | none => []
theorem PI_old (L : List (Int × Int)) (p : Int × Int) (j : Nat) (hj : j < L.length) : PI (L ++ [p]) j = PI L j := by
  unfold PI
  rw [List.getElem?_append_left hj]
theorem PI_new (L : List (Int × Int)) (p : Int × Int) : PI (L ++ [p]) L.length = [p.1, p.2] := by
  unfold PI
  rw [List.getElem?_append_right (Nat.le_refl _), Nat.sub_self]
  rfl
theorem PI_at {L : List (Int × Int)} {j : Nat} {p : Int × Int} (h : L[j]? = some p) : PI L j = [p.1, p.2] := by
  unfold PI
  rw [h]
/-- the cells of pairs, one behind the other -/
def pairC : List (Int × Int) → List Value
  | [] => []
  | p :: r => .int .i64 p.1 :: .int .i64 p.2 :: pairC r
theorem pairC_app (L M : List (Int × Int)) : pairC (L ++ M) = pairC L ++ pairC M := by
  induction L with
  | nil => rfl
  | cons p r ih =>
    show _ :: _ :: pairC (r ++ M) = _ :: _ :: (pairC r ++ pairC M)
    rw [ih]
theorem pairC_len (L : List (Int × Int)) : (pairC L).length = L.length * 2 := by
  induction L with
  | nil => rfl
  | cons p r ih =>
    show (pairC r).length + 1 + 1 = (r.length + 1) * 2
    rw [ih]
    omega
theorem pairC_at (L : List (Int × Int)) (k : Nat) (p : Int × Int) (h : L[k]? = some p) : (pairC L)[k * 2]? = some (.int .i64 p.1) ∧ (pairC L)[k * 2 + 1]? = some (.int .i64 p.2) := by
  induction L generalizing k with
  | nil => simp at h
  | cons q r ih =>
    cases k with
    | zero =>
      simp at h
      subst h
      exact ⟨rfl, rfl⟩
    | succ k =>
      have h2 : r[k]? = some p := by simpa using h
      obtain ⟨a, b⟩ := ih k h2
      rw [show (k + 1) * 2 = k * 2 + 1 + 1 by omega]
      exact ⟨a, b⟩

/-! full rectangles -/
/-- the full ones among the first k sets -/
def fullTo (xs : List Int) (k : Nat) : List (Int × Int) := ((List.range k).filter fun (z : Nat) => clo xs (z : Int) == (z : Int)).map fun (z : Nat) => ((z : Int), relAll xs (z : Int))
def fullL (xs : List Int) : List (Int × Int) := fullTo xs (2 ^ xs.length)
theorem full_yes {xs : List Int} {k : Nat} (h : (clo xs (k : Int) == (k : Int)) = true) : fullTo xs (k + 1) = fullTo xs k ++ [((k : Int), relAll xs (k : Int))] := by
  unfold fullTo
  rw [List.range_succ, List.filter_append, List.map_append, List.filter_cons_of_pos (by exact h)]
  rfl
theorem full_no {xs : List Int} {k : Nat} (h : (clo xs (k : Int) == (k : Int)) = false) : fullTo xs (k + 1) = fullTo xs k := by
  unfold fullTo
  rw [List.range_succ, List.filter_append, List.map_append, List.filter_cons_of_neg (by rw [h]; exact Bool.false_ne_true)]
  simp
theorem full_len (xs : List Int) (k : Nat) : (fullTo xs k).length ≤ k := by
  unfold fullTo
  rw [List.length_map]
  exact Nat.le_trans (List.length_filter_le _ _) (by simp)

set_option maxRecDepth 100000 in
set_option maxHeartbeats 4000000 in
theorem l6rAll_any {xs : List Int} (R : Rl xs.length xs) (ao : Option Addr) (ca : Nat) (w : World) (hx : Rd w ao xs) :
    Calls Try.prog 36 #[.slice ao xs.length ca] w fun e w' => ∃ v gs, e = .returned v ∧ Own2 w' w.heap.size w'.heap.size v (fullL xs).length (PI (fullL xs)) gs ∧ Below w.heap.size w w' := by
  obtain ⟨i0, hi, hz0, hz1, hz2⟩ := info_parts Try.info223
  have h1' := R.one
  have h4 := R.four
  have hw := pow_wrap xs.length h1' h4
  have hm := pow_le16 h4
  unfold fullL
  obtain ⟨m, hm2⟩ : ∃ m, 2 ^ xs.length = m := ⟨_, rfl⟩
  rw [hm2] at hw hm ⊢
  have HC := Lib.hid (And.intro (fun (z : Fin 16) wr h => l6rClosed_any R z ao ca wr h) (fun (z : Fin 16) wr h => l6rPolar_any R z ao ca wr h))
  have hown0 : (w.alloc (.cells #[] 23)).ownsRow w.heap.size 23 1 (.slice (some ⟨w.heap.size, 0, none⟩) 0 0) 0 [] := World.ownsRow_lit w #[] 0 (Nat.le_refl _) (by unfold maxLen; omega) rfl
  have E0 : Own2 (w.alloc (.cells #[] 23)) w.heap.size (w.alloc (.cells #[] 23)).heap.size (.slice (some ⟨w.heap.size, 0, none⟩) 0 0) (fullTo xs 0).length (PI (fullTo xs 0)) (fun _ => 0) := Own2.empty hown0
  have B1 := below_one w (.cells #[] 23)
  have HX := Lib.hid hx
  clear R hm2 hown0 hx
  go_enter Try.func36, Try.ntmps36
  go_wp2
  go_loopw [3, 4] (fun v i wr => ∃ (k : Nat) (gs : Nat → Nat), k ≤ m ∧ i = .int .i64 k ∧ Own2 wr w.heap.size wr.heap.size v (fullTo xs k).length (PI (fullTo xs k)) gs ∧ Below w.heap.size w wr)
    (fun _ i _ => m - (intOf i).toNat)
  case atStart => exact ⟨0, _, Nat.zero_le _, rfl, E0, B1⟩
  case round =>
    clear E0 B1
    obtain ⟨k, gs, hk, rfl, ho, hB⟩ := hrel
    by_cases hlt : k < m
    · have hi1 : ((k : Nat) : Int) < (m : Int) := by omega
      have hx2 := HX.out.below hB
      have hcc := HC.out.1 ⟨k, by omega⟩ wr hx2
      have hpp := fun wr h => HC.out.2 ⟨k, by omega⟩ wr h
      dsimp only at hcc hpp
      have hlen := full_len xs k
      cases hb : (clo xs (k : Int) == (k : Int)) with
      | false =>
        have hst := full_no hb
        have HST := Lib.hid hst
        have HCC := Lib.hid hcc
        have hb2 := hb
        clear hst hcc hb hpp
        obtain ⟨c, hc⟩ : ∃ c, clo xs (k : Int) = c := ⟨_, rfl⟩
        rw [hc] at hb2 HCC
        clear hc
        go_wp2_with fail
        refine HCC.out.mono ?_
        rintro e w2 ⟨rfl, hb3⟩
        have ho2 := (ho.below hb3 (Nat.le_refl _)).hi
        have hB2 := hB.trans (hb3.mono hB.size)
        clear ho hB hb3 hx2
        go_wp2
        go_roundw
        case rel => exact ⟨k + 1, gs, by omega, by go_num, by rw [HST.out]; exact ho2, hB2⟩
        case measure => simp [intOf]; omega
      | true =>
        have hst := full_yes hb
        have HST := Lib.hid hst
        have HCC := Lib.hid hcc
        have HPP := Lib.hid hpp
        have hb2 := hb
        clear hst hcc hb hpp
        obtain ⟨c, hc⟩ : ∃ c, clo xs (k : Int) = c := ⟨_, rfl⟩
        rw [hc] at hb2 HCC
        clear hc
        go_wp2_with fail
        refine HCC.out.mono ?_
        rintro e w2 ⟨rfl, hb3⟩
        have ho2 := (ho.below hb3 (Nat.le_refl _)).hi
        have hB2 := hB.trans (hb3.mono hB.size)
        have hx3 := hx2.below hb3
        clear ho hB hb3 hx2
        go_wp2_with fail
        refine (HPP.out _ hx3).mono ?_
        rintro e w3 ⟨rfl, hd⟩
        have ho3 := (ho2.dn hd).hi
        have hB3 := hB2.trans (hd.below _)
        clear ho2 hB2 hx3 hd hb2 HPP HCC
        obtain ⟨p, hp⟩ : ∃ p, relAll xs (k : Int) = p := ⟨_, rfl⟩
        rw [hp] at HST ⊢
        clear hp
        have h6 := cell_one_new (w3.alloc (.cells #[.int .i64 k, .int .i64 p] 3)) (sl2 w3.heap.size) 23
        rw [World.size_alloc] at h6
        have H6 := Lib.hid h6
        clear h6
        go_wp2_with (at_builtin; refine wpList_append_own _ rfl (.tmp 18) (.tmp 24) 25 rfl w.heap.size 23 i0 (.slice none 0 0) 1 24 Try.underlying25 hi hz0 hz1 hz2 rfl (by decide) _ _ _ rfl ((ho3.row.alloc _).alloc _) ⟨w3.heap.size + 1, 0, none⟩ 1 1 [_] rfl rfl H6.out (by simp [Value.oneCell']) (by unfold maxLen; omega) (by omega) (by have := hB3.size; simp; omega) ?_)
        intro v' w6 hown' hgrow _
        have hB6 : Below w.heap.size w w6 := (hB3.trans ((below_two w3 _ _).mono hB3.size)).grown hgrow (Nat.le_trans hB3.size (below_two w3 _ _).size) (fun q hq => (ho3.row.lt q hq).1)
        have hpush := ho3.push hB3.size (k : Int) p hown' hgrow (r' := PI (fullTo xs k ++ [((k : Int), p)])) (fun t ht => PI_old _ _ t ht) (PI_new _ _)
        have HO := Lib.hid (And.intro hpush hB6)
        clear hown' hgrow hpush hB6 ho3 hB3
        go_wp2
        go_roundw
        case rel => exact ⟨k + 1, _, by omega, by go_num, by rw [HST.out, List.length_append]; exact HO.out.1, HO.out.2⟩
        case measure => simp [intOf]; omega
    · go_wp2
      go_ret
      obtain rfl : k = m := by omega
      exact ⟨_, gs, rfl, ho, hB⟩

/-- how many rows RectAll has -/
def fullN (xs : List Int) : Nat := if relIn xs then (fullL xs).length else 0
theorem specRectAll_any (ao : Option Addr) (ca : Nat) (xs : List Int) (w : World) (hl : xs.length ≤ 1048576) (hx : Rd w ao xs) :
    Calls Try.prog 10 #[.slice ao xs.length ca] w (Gave2 w (fullN xs) (PI (fullL xs)) (relIn xs)) := by
  have h1 := specRelIn_any ao ca xs w hl hx
  unfold fullN
  cases hp : relIn xs with
  | false =>
    rw [hp] at h1
    have H1 := Lib.hid h1
    clear h1 hp
    go_enter Try.func10, Try.ntmps10
    go_wp2_with fail
    refine H1.out.mono ?_
    rintro e w1 ⟨rfl, hd⟩
    go_wp2
    go_ret2
    have hh : w.heap.size = w1.heap.size := by rw [hd.heap]
    exact ⟨_, fun _ => 0, rfl, Own2.empty (by rw [hh]; exact World.ownsRow_lit w1 #[] 0 (Nat.le_refl _) (by unfold maxLen; omega) rfl), (hd.below _).alloc (by omega) _⟩
  | true =>
    rw [hp] at h1
    have H1 := Lib.hid h1
    have HA := Lib.hid (fun w h => l6rAll_any (Rl.of hp) ao ca w h)
    clear h1 hp
    go_enter Try.func10, Try.ntmps10
    go_wp2_with fail
    refine H1.out.mono ?_
    rintro e w1 ⟨rfl, hd⟩
    go_wp2_with fail
    refine (HA.out _ (hd.rd hx)).mono ?_
    rintro e w2 ⟨v, gs, rfl, ho, hb⟩
    go_wp2
    go_ret2
    have hh : w1.heap.size = w.heap.size := by rw [hd.heap]
    rw [hh] at ho hb
    exact ⟨_, gs, rfl, ho, (hd.below _).trans hb⟩
end Go.Proofs.Ytnmgoeklcmoalab
