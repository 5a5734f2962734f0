/-
  The program's surely and relationOn: what a program surely leads into, and the relation of programs gone through one behind the other; for relations of at most 4 points.
-/
import Derived.Test.YtcdiicckngndcabPC
namespace Go.Proofs.Ytcdiicckngndcab
open Go.RowKit

theorem before_any {n : Nat} (h4 : n ≤ 4) (ps : List Pr) (h2 : ps.length ≤ 2) (hp : ∀ p, p ∈ ps → p.ok n) (b : Nat) (z : Int) (hz : St n z) (w : World) (hs : SeqAt w b ps) :
    Calls Try.prog 52 #[sqV b ps.length, .int .i64 z] w fun e w' => e = .returned (.int .i64 (accB z (backTo ps hp ps.length))) ∧ Below w.heap.size w w' :=
  callsIn_wide.1 (before_in h4 ps h2 hp b z hz w hs)

theorem surely_walk (n : Nat) (h1 : 1 ≤ n) (h4 : n ≤ 4) (b m : Nat) (z r : Int) (w : World)
    (hb : Calls Try.prog 52 #[sqV b m, .int .i64 (notA n z)] w fun e w' => e = .returned (.int .i64 r) ∧ Below w.heap.size w w') :
    Calls Try.prog 58 #[sqV b m, .int .i64 z, .int .i64 n] w fun e w' => e = .returned (.int .i64 (notA n r)) ∧ Below w.heap.size w w' := by
  have HB := Lib.hid hb
  clear hb
  go_enter Try.func58, Try.ntmps58
  go_wp2_with fail
  refine (otherStates_any _ _ h1 h4 _).mono ?_
  rintro e w1 ⟨rfl, rfl⟩
  go_wp2_with fail
  refine HB.out.mono ?_
  rintro e w2 ⟨rfl, hb⟩
  go_wp2_with fail
  refine (otherStates_any _ _ h1 h4 _).mono ?_
  rintro e w3 ⟨rfl, rfl⟩
  go_wp2
  go_ret
  exact ⟨rfl, hb⟩

theorem surely_one {xs : List Int} (R : Rl xs.length xs) (b : Nat) {z : Int} (hz : St xs.length z) (w : World) (hs : SeqAt w b [.step xs]) :
    Calls Try.prog 58 #[sqV b 1, .int .i64 z, .int .i64 xs.length] w fun e w' => e = .returned (.int .i64 (surA xs.length xs z)) ∧ Below w.heap.size w w' :=
  surely_walk xs.length R.one R.four b 1 z _ w (before_any R.four [.step xs] (by simp) (fun p h => by obtain rfl := List.mem_singleton.1 h; exact ⟨rfl, R⟩) b _ (St.not R.four hz) w hs)

theorem sur_test {n : Nat} {xs : List Int} (h : Rl n xs) {t z : Int} (ht : St n t) (hz : St n z) : notA n (bits .and .i64 (imgA (turnL xs) (notA n z)) t) = surA n (wiL t xs) z := by
  have h4 := h.four
  have hi := St.img h.turn (St.not h4 hz)
  refine St.ext h4 (St.not h4 (St.and h4 hi ht)) (St.sur (h.wi t) hz) fun j hj => ?_
  rw [Bool.eq_iff_iff, has_sur (h.wi t) hz j hj, St.hasNot h4 (St.and h4 hi ht) j hj, Bool.not_eq_true', ← Bool.not_eq_true, St.hasAnd hi ht j (by omega), Bool.and_eq_true, has_img h.turn (St.not h4 hz) j hj]
  constructor
  · intro g l hl e
    rw [hB_wi h t j l hj hl, Bool.and_eq_true] at e
    cases hc : hasB z l with
    | true => rfl
    | false => exact absurd ⟨⟨l, hl, by rw [St.hasNot h4 hz l hl, hc]; rfl, by rw [hB_turn h l j hl hj]; exact e.2⟩, e.1⟩ g
  · rintro g ⟨⟨l, hl, e1, e2⟩, e3⟩
    rw [hB_turn h l j hl hj] at e2
    rw [St.hasNot h4 hz l hl, g l hl (by rw [hB_wi h t j l hj hl, e3, e2]; rfl)] at e1
    cases e1
theorem surely_two {xs : List Int} (R : Rl xs.length xs) (b : Nat) {t z : Int} (ht : St xs.length t) (hz : St xs.length z) (w : World) (hs : SeqAt w b [.test t, .step xs]) :
    Calls Try.prog 58 #[sqV b 2, .int .i64 z, .int .i64 xs.length] w fun e w' => e = .returned (.int .i64 (surA xs.length (wiL t xs) z)) ∧ Below w.heap.size w w' := by
  have h := surely_walk xs.length R.one R.four b 2 z _ w (before_any R.four [.test t, .step xs] (by simp) (fun p h => by
    rcases List.mem_cons.1 h with rfl | h
    · exact ht
    · obtain rfl := List.mem_singleton.1 h
      exact ⟨rfl, R⟩) b _ (St.not R.four hz) w hs)
  rw [← sur_test R ht hz]
  exact h

/-! the relation of programs -/
/-- told for the first k points -/
def Told (n : Nat) (f : Nat → Int) (k : Nat) (zs : List Int) : Prop := zs.length = n ∧ ∀ i, i < k → rowAt zs i = f i
theorem Told.step {n k : Nat} {f : Nat → Int} {zs : List Int} (h : Told n f k zs) (hk : k < n) : Told n f (k + 1) (zs.set k (f k)) := by
  refine ⟨by rw [List.length_set]; exact h.1, fun i hi => ?_⟩
  rw [rowAt_set _ _ _ _ (by rw [h.1]; exact hk)]
  by_cases e : i = k
  · rw [if_pos e, e]
  · rw [if_neg e]
    exact h.2 i (by omega)
theorem Told.full {n : Nat} {f : Nat → Int} {zs : List Int} (h : Told n f n zs) : zs = (List.range n).map f := by
  apply List.ext_getElem?
  intro i
  by_cases hi : i < n
  · rw [rowAt_get (by rw [h.1]; exact hi), h.2 i hi, List.getElem?_map, List.getElem?_range hi]
    rfl
  · rw [List.getElem?_eq_none (by rw [h.1]; omega), List.getElem?_eq_none (by rw [List.length_map, List.length_range]; omega)]

set_option maxHeartbeats 2000000 in
theorem relationOn_any {n : Nat} (h1 : 1 ≤ n) (h4 : n ≤ 4) (ps : List Pr) (h2 : ps.length ≤ 2) (hp : ∀ p, p ∈ ps → p.ok n) (b : Nat) (w : World) (hs : SeqAt w b ps) :
    Calls Try.prog 91 #[sqV b ps.length, .int .i64 n] w fun e w' => e = .returned (relOf ((List.range n).map fun i => aftA ps (pt i))) ∧ Below w.heap.size w w' := by
  have z1 := (rel_zero w).alloc (.cells #[.int .i64 n, .int .i64 0, .int .i64 0, .int .i64 0, .int .i64 0] 47)
  have a1 := zero_new (w.alloc (.cells #[.int .i64 0, .int .i64 0, .int .i64 0, .int .i64 0, .int .i64 0] 47)) n
  rw [World.size_alloc] at a1
  have s1 := (hs.alloc (.cells #[.int .i64 0, .int .i64 0, .int .i64 0, .int .i64 0, .int .i64 0] 47)).alloc (.cells #[.int .i64 n, .int .i64 0, .int .i64 0, .int .i64 0, .int .i64 0] 47)
  have B0 := below_two w (.cells #[.int .i64 0, .int .i64 0, .int .i64 0, .int .i64 0, .int .i64 0] 47) (.cells #[.int .i64 n, .int .i64 0, .int .i64 0, .int .i64 0, .int .i64 0] 47)
  have hbl := hs.lt
  have HA := Lib.hid (fun i (hi : i < n) w hs => after_any h4 ps h2 hp b (pt i) (St.pt h4 i hi) w hs)
  obtain ⟨m, hm⟩ : ∃ m, ps.length = m := ⟨_, rfl⟩
  obtain ⟨f, hf⟩ : ∃ f : Nat → Int, (fun i => aftA ps (pt i)) = f := ⟨_, rfl⟩
  have HF := Lib.hid (fun i => congrFun hf i)
  rw [hm] at HA ⊢
  rw [hf]
  have HM := Lib.hid hm
  clear hm hf hs h2 hp
  go_enter Try.func91, Try.ntmps91
  go_wp2
  go_loopw [10, 6] (fun i _ wr => ∃ (k : Nat) (zs : List Int), k ≤ n ∧ i = .int .i64 k ∧ Told n f k zs ∧ RelAt wr (w.heap.size + 1) zs ∧ RelAt wr w.heap.size [] ∧ SeqAt wr b ps ∧ Below w.heap.size w wr)
    (fun i _ _ => n - (intOf i).toNat)
  case atStart => exact ⟨0, List.replicate n 0, Nat.zero_le _, rfl, ⟨by simp, fun i hi => by omega⟩, a1, z1, s1, B0⟩
  case round =>
    obtain ⟨k, zs, hk, rfl, ht, ha, hz, hq, hB⟩ := hrel
    clear a1 z1 s1 B0
    by_cases hlt : k < n
    · have hq4 : (k : Int) < 4 := by omega
      have hcall := HA.out k hlt
      rw [HF.out k] at hcall
      have H := Lib.hid hcall
      have hst := ht.step hlt
      have HT := Lib.hid hst
      have hlz := Lib.hid ht.1
      clear hcall hst ht
      go_wp2_with fail
      refine (onePoint_any _ (by omega) _).mono ?_
      rintro e w1 ⟨rfl, rfl⟩
      go_wp2_with fail
      refine (H.out _ hq).mono ?_
      rintro e w2 ⟨rfl, hb⟩
      have ha2 := ha.below hb ha.lt
      have hz2 := hz.below hb hz.lt
      have hq2 := hq.below hb hq.lt
      have B2 := hB.trans (hb.mono hB.size)
      have fr := ha2.free (1 + k)
      have hcr := ha2.row k (by omega)
      clear ha hz hq hB hb
      go_wp2
      go_roundw
      case rel =>
        refine ⟨k + 1, zs.set k (f k), by omega, by go_num, HT.out, ha2.set k (by rw [hlz.out]; exact hlt) (by omega) (f k), hz2.other (p := ⟨w.heap.size + 1, 1 + k, none⟩) (by simp) _, hq2.other (p := ⟨w.heap.size + 1, 1 + k, none⟩) (by simp; omega) _, B2.setCell (by simp) _⟩
      case measure => simp [intOf]; omega
    · obtain rfl : k = n := by omega
      have HE := Lib.hid ht.full
      have hln := Lib.hid ht.1
      have p0 := ha.cell0
      rw [hln.out] at p0
      have p1 := ha.cell1
      have p2 := ha.cell2
      have p3 := ha.cell3
      have p4 := ha.cell4
      have q0 := hz.cell0
      have q1 := hz.cell1
      have q2 := hz.cell2
      have q3 := hz.cell3
      have q4 := hz.cell4
      have f0 := hz.free 0
      have f1 := hz.free 1
      have f2 := hz.free 2
      have f3 := hz.free 3
      have f4 := hz.free 4
      clear ht ha
      go_wp2
      refine bodyPost_ret (v := relOf zs) (by simp [results, Try.results91, go_sem, q0, q1, q2, q3, q4, hln.out]) rfl ⟨by rw [HE.out], ?_⟩
      have bb := fun (W : World) (i : Nat) (v : Value) (h : Below w.heap.size w W) => h.setCell (p := ⟨w.heap.size, i, none⟩) (Nat.le_refl _) v
      exact bb _ _ _ (bb _ _ _ (bb _ _ _ (bb _ _ _ (bb _ _ _ hB))))

/-- a step of the code, and what follows it, apart -/
theorem wp_part {P : Program} {c : Code} {Q : Exit → Act → World → Prop} {a : Act} {w : World} (R : Act → World → Prop) (h : c.wp P (Exit.then R fun _ _ _ => False) a w) (k : ∀ a' w', R a' w' → Q .normal a' w') : c.wp P Q a w :=
  wp_mono h fun e a' w' hq => by
    cases e with
    | normal => exact k a' w' hq
    | _ => exact False.elim hq

theorem RelAt.put_other {W : World} {b c : Nat} {xs : List Int} (h : RelAt W b xs) (hne : b ≠ c) (v0 v1 v2 v3 v4 : Value) : RelAt (((((W.setCell ⟨c, 0, none⟩ v0).setCell ⟨c, 1, none⟩ v1).setCell ⟨c, 2, none⟩ v2).setCell ⟨c, 3, none⟩ v3).setCell ⟨c, 4, none⟩ v4) b xs :=
  ((put5_all W c v0 v1 v2 v3 v4).2.1 b hne).trans h
theorem below_put {w W : World} {c B : Nat} (h : Below B w W) (hc : B ≤ c) (v0 v1 v2 v3 v4 : Value) : Below B w (((((W.setCell ⟨c, 0, none⟩ v0).setCell ⟨c, 1, none⟩ v1).setCell ⟨c, 2, none⟩ v2).setCell ⟨c, 3, none⟩ v3).setCell ⟨c, 4, none⟩ v4) :=
  h.trans ((put5_all W c v0 v1 v2 v3 v4).2.2 B hc)

theorem two_ok {xs : List Int} (R : Rl xs.length xs) {t : Int} (ht : St xs.length t) : ∀ p, p ∈ [Pr.test t, Pr.step xs] → p.ok xs.length := fun p h => by
  rcases List.mem_cons.1 h with rfl | h
  · exact ht
  · obtain rfl := List.mem_singleton.1 h
    exact ⟨rfl, R⟩
theorem relationOn_wi {n : Nat} {xs : List Int} (hn : xs.length = n) (R : Rl xs.length xs) {t : Int} (ht : St xs.length t) (b : Nat) (w : World) (hs : SeqAt w b [.test t, .step xs]) :
    Calls Try.prog 91 #[sqV b 2, .int .i64 n] w fun e w' => e = .returned (relOf (wiL t xs)) ∧ Below w.heap.size w w' := by
  subst hn
  have h := relationOn_any R.one R.four [.test t, .step xs] (by simp) (two_ok R ht) b w hs
  have e : (List.range xs.length).map (fun i => aftA [.test t, .step xs] (pt i)) = wiL t xs := by
    unfold wiL
    apply List.map_congr_left
    intro i hi
    exact img_test R ht i (List.mem_range.1 hi)
  rw [e] at h
  exact h
end Go.Proofs.Ytcdiicckngndcab
