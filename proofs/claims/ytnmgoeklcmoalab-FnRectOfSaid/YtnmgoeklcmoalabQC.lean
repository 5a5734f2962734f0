/-
  Least stepped relations: the program's step and RectStep, and the model's; for lists of at most 2^20 numbers.
-/
import Derived.Test.YtnmgoeklcmoalabQB
import Derived.Test.YtnmgoeklcmoalabHQ
import Derived.Test.YtnmgoeklcmoalabEN
namespace Go.Proofs.Ytnmgoeklcmoalab
open Go.RowKit

/-! what the steps lead to -/
def stepY (xs : List Int) : List Int := compL xs (turnL xs)
/-- the least stepped relation that has all pairs -/
def stepL (xs : List Int) : List Int := compL (starL (stepY xs)) xs
theorem stepY_rl {n : Nat} {xs : List Int} (h : Rl n xs) : Rl n (stepY xs) := h.comp h.turn
theorem stepY_rl' {n : Nat} {xs : List Int} (h : Rl n xs) : Rl (stepY xs).length (stepY xs) := by rw [(stepY_rl h).len]; exact stepY_rl h
theorem starY_rl {n : Nat} {xs : List Int} (h : Rl n xs) : Rl n (starL (stepY xs)) := by
  have := (stepY_rl' h).star
  rw [(stepY_rl h).len] at this
  exact this
theorem stepL_rl {n : Nat} {xs : List Int} (h : Rl n xs) : Rl n (stepL xs) := (starY_rl h).comp h
theorem hB_stepY {n : Nat} {xs : List Int} (h : Rl n xs) (i j : Nat) (hi : i < n) (hj : j < n) : hB (stepY xs) i j = true ↔ ∃ l, l < n ∧ hB xs i l = true ∧ hB xs j l = true := by
  unfold stepY
  rw [hB_comp h h.turn i j hi hj]
  constructor
  · rintro ⟨l, hl, e1, e2⟩
    exact ⟨l, hl, e1, by rw [hB_turn h l j hl hj] at e2; exact e2⟩
  · rintro ⟨l, hl, e1, e2⟩
    exact ⟨l, hl, e1, by rw [hB_turn h l j hl hj]; exact e2⟩
/-- a star by powers -/
theorem hB_starP {xs : List Int} (h : Rl xs.length xs) (i j : Nat) (hi : i < xs.length) (hj : j < xs.length) : hB (starL xs) i j = true ↔ ∃ t, hB (powL xs t) i j = true := by
  unfold starL
  rw [hB_either h.reach (Rl.same h.one h.four) i j hi hj, Bool.or_eq_true, hB_reach h i j hi hj]
  constructor
  · rintro (⟨t, _, e⟩ | e)
    · exact ⟨t, e⟩
    · exact ⟨0, e⟩
  · rintro ⟨t, e⟩
    by_cases h0 : t = 0
    · subst h0
      exact .inr e
    · exact .inl ⟨t, by omega, e⟩
theorem hB_trip {n : Nat} {xs : List Int} (h : Rl n xs) (i j : Nat) (hi : i < n) (hj : j < n) : hB (trip xs) i j = true ↔ ∃ p q, p < n ∧ q < n ∧ hB xs i p = true ∧ hB xs q p = true ∧ hB xs q j = true := by
  unfold trip
  rw [hB_comp (h.comp h.turn) h i j hi hj]
  constructor
  · rintro ⟨q, hq, e1, e2⟩
    obtain ⟨p, hp, e3, e4⟩ := (hB_stepY h i q hi hq).1 e1
    exact ⟨p, q, hp, hq, e3, e4, e2⟩
  · rintro ⟨p, q, hp, hq, e1, e2, e3⟩
    exact ⟨q, hq, (hB_stepY h i q hi hq).2 ⟨p, hp, e1, e2⟩, e3⟩
theorem step_iff {n : Nat} {xs : List Int} (h : Rl n xs) : stepB xs = true ↔ ∀ i j p q, i < n → j < n → p < n → q < n → hB xs i p = true → hB xs q p = true → hB xs q j = true → hB xs i j = true := by
  unfold stepB
  rw [below_iff h.trip h]
  constructor
  · intro e i j p q hi hj hp hq e1 e2 e3
    exact e i j hi hj ((hB_trip h i j hi hj).2 ⟨p, q, hp, hq, e1, e2, e3⟩)
  · intro e i j hi hj e0
    obtain ⟨p, q, hp, hq, e1, e2, e3⟩ := (hB_trip h i j hi hj).1 e0
    exact e i j p q hi hj hp hq e1 e2 e3
theorem trip_has {n : Nat} {xs : List Int} (h : Rl n xs) : sub n xs (trip xs) := fun i j hi hj e => (hB_trip h i j hi hj).2 ⟨j, i, hj, hi, e, e, e⟩
/-- it lies in each stepped one that has the pairs -/
theorem step_in {n : Nat} {xs M : List Int} (h : Rl n xs) (hM : Rl n M) (hs : sub n xs M) (hb : stepB M = true) : sub n (stepL xs) M := by
  intro i j hi hj e
  unfold stepL at e
  obtain ⟨l, hl, e1, e2⟩ := (hB_comp (starY_rl h) h i j hi hj).1 e
  have hY := (stepY_rl h).len
  obtain ⟨t, e1⟩ := (hB_starP (stepY_rl' h) i l (by rw [hY]; exact hi) (by rw [hY]; exact hl)).1 e1
  have key : ∀ t l, l < n → hB (powL (stepY xs) t) i l = true → ∀ j, j < n → hB M l j = true → hB M i j = true := by
    intro t
    induction t with
    | zero =>
      intro l hl e j hj f
      have e2 : hB (sameL (stepY xs).length) i l = true := e
      rw [hY, hB_same h.four i l hi hl] at e2
      obtain rfl := of_decide_eq_true e2
      exact f
    | succ t ih =>
      intro l hl e j hj f
      obtain ⟨m, hm, f1, f2⟩ := (hB_comp ((stepY_rl' h).pow t) (stepY_rl' h) i l (by rw [hY]; exact hi) (by rw [hY]; exact hl)).1 e
      rw [hY] at hm
      obtain ⟨p, hp, g1, g2⟩ := (hB_stepY h m l hm hl).1 f2
      exact ih m hm f1 j hj ((step_iff hM).1 hb m j p l hm hj hp hl (hs m p hm hp g1) (hs l p hl hp g2) f)
  exact key t l hl e1 j hj (hs l j hl hj e2)
theorem step_has {n : Nat} {xs : List Int} (h : Rl n xs) : sub n xs (stepL xs) := by
  intro i j hi hj e
  unfold stepL
  refine (hB_comp (starY_rl h) h i j hi hj).2 ⟨i, hi, ?_, e⟩
  have hY := (stepY_rl h).len
  refine (hB_starP (stepY_rl' h) i i (by rw [hY]; exact hi) (by rw [hY]; exact hi)).2 ⟨0, ?_⟩
  show hB (sameL (stepY xs).length) i i = true
  rw [hY, hB_same h.four i i hi hi]
  exact decide_eq_true rfl
/-- what the star of a symmetric relation relates -/
theorem starY_turn {n : Nat} {xs : List Int} (h : Rl n xs) (i j : Nat) (hi : i < n) (hj : j < n) (e : hB (starL (stepY xs)) i j = true) : hB (starL (stepY xs)) j i = true := by
  have hY := (stepY_rl h).len
  have hs : Sym (stepY xs).length (stepY xs) := by
    rw [hY]
    intro i j hi hj e
    obtain ⟨l, hl, e1, e2⟩ := (hB_stepY h i j hi hj).1 e
    exact (hB_stepY h j i hj hi).2 ⟨l, hl, e2, e1⟩
  obtain ⟨t, e⟩ := (hB_starP (stepY_rl' h) i j (by rw [hY]; exact hi) (by rw [hY]; exact hj)).1 e
  exact (hB_starP (stepY_rl' h) j i (by rw [hY]; exact hj) (by rw [hY]; exact hi)).2 ⟨t, sym_pow (stepY_rl' h) hs t i j (by rw [hY]; exact hi) (by rw [hY]; exact hj) e⟩
theorem starY_on {n : Nat} {xs : List Int} (h : Rl n xs) (i l j : Nat) (hi : i < n) (hl : l < n) (hj : j < n) (e : hB (starL (stepY xs)) i l = true) (f : hB (starL (stepY xs)) l j = true) : hB (starL (stepY xs)) i j = true := by
  have hY := (stepY_rl h).len
  have hi' : i < (stepY xs).length := by rw [hY]; exact hi
  have hj' : j < (stepY xs).length := by rw [hY]; exact hj
  have hl' : l < (stepY xs).length := by rw [hY]; exact hl
  obtain ⟨s, e⟩ := (hB_starP (stepY_rl' h) i l hi' hl').1 e
  obtain ⟨t, f⟩ := (hB_starP (stepY_rl' h) l j hl' hj').1 f
  exact (hB_starP (stepY_rl' h) i j hi' hj').2 ⟨s + t, pow_add (stepY_rl' h) i j hi' hj' s t l hl' e f⟩
theorem step_stepped {n : Nat} {xs : List Int} (h : Rl n xs) : stepB (stepL xs) = true := by
  rw [step_iff (stepL_rl h)]
  intro i j p q hi hj hp hq e1 e2 e3
  obtain ⟨a, ha, a1, a2⟩ := (hB_comp (starY_rl h) h i p hi hp).1 e1
  obtain ⟨b, hb, b1, b2⟩ := (hB_comp (starY_rl h) h q p hq hp).1 e2
  obtain ⟨c, hc, c1, c2⟩ := (hB_comp (starY_rl h) h q j hq hj).1 e3
  have hY := (stepY_rl h).len
  have ab : hB (starL (stepY xs)) a b = true := by
    refine (hB_starP (stepY_rl' h) a b (by rw [hY]; exact ha) (by rw [hY]; exact hb)).2 ⟨1, ?_⟩
    rw [hB_pow1 (stepY_rl' h) a b (by rw [hY]; exact ha) (by rw [hY]; exact hb)]
    exact (hB_stepY h a b ha hb).2 ⟨p, hp, a2, b2⟩
  exact (hB_comp (starY_rl h) h i j hi hj).2 ⟨c, hc, starY_on h i q c hi hq hc (starY_on h i b q hi hb hq (starY_on h i a b hi ha hb a1 ab) (starY_turn h q b hq hb b1)) c1, c2⟩
/-- a step stays in it -/
theorem trip_in {n : Nat} {xs M : List Int} (h : Rl n xs) (hM : Rl n M) (hb : stepB M = true) (hs : sub n xs M) : sub n (trip xs) M := by
  intro i j hi hj e
  obtain ⟨p, q, hp, hq, e1, e2, e3⟩ := (hB_trip h i j hi hj).1 e
  exact (step_iff hM).1 hb i j p q hi hj hp hq (hs i p hi hp e1) (hs q p hq hp e2) (hs q j hq hj e3)
theorem step_end {n : Nat} {xs out : List Int} (h : Rl n xs) (ho : Rl n out) (hs : sub n xs out) (hin : sub n out (stepL xs)) (hb : stepB out = true) : out = stepL xs :=
  hin.anti ho (stepL_rl h) (step_in h ho hs hb)
theorem trip_ne {n : Nat} {out : List Int} (ho : Rl n out) (hb : stepB out = false) : weight out < weight (trip out) := by
  refine weight_grow ho ho.trip (trip_has ho) fun e => ?_
  unfold stepB at hb
  rw [← e] at hb
  have := (below_iff ho ho).2 (fun i j _ _ h => h)
  rw [this] at hb
  cases hb

/-! the program's -/
/-- powers and where they come round, as a value and its memory -/
def PwIs (b : List Int) (w : World) (g cap m : Nat) : Prop := m ≤ 65536 ∧ fromL b 0 (m - 0) = starL b ∧ w.ownsRow 0 46 5 (.slice (some ⟨g, 0, none⟩) (m + 1) cap) (m + 1) (powC b (m + 1))
/-! the model's -/
/-- the number in a cell of a slice, as a world has it -/
def rdI (w : World) (v : Value) (k : Nat) : Int := match v with
  | .slice (some a) _ _ => (match w.cell? ⟨a.block, a.off + k, none⟩ with | some (.int _ x) => x | _ => 0)
  | _ => 0
def rdL (n : Nat) (w : World) (v : Value) : List Int := (List.range n).map (rdI w v)
theorem rdL_eq {w : World} {g n cap : Nat} {zs : List Int} (h : Rd w (some ⟨g, 0, none⟩) zs) (hn : zs.length = n) : rdL n w (.slice (some ⟨g, 0, none⟩) n cap) = zs := by
  unfold rdL
  apply List.ext_getElem?
  intro k
  rw [List.getElem?_map]
  by_cases hk : k < n
  · rw [List.getElem?_range hk]
    obtain ⟨b, off, x, hx, e, _, hc⟩ := h.get k (by rw [hn]; exact hk)
    cases e
    rw [hx]
    show some (rdI w (.slice (some ⟨g, 0, none⟩) n cap) k) = some x
    unfold rdI
    dsimp only
    rw [hc]
  · rw [List.getElem?_eq_none (by simp; omega), List.getElem?_eq_none (by omega)]
    rfl

set_option maxHeartbeats 8000000 in
theorem specRectStep_any (ao : Option Addr) (ca : Nat) (xs : List Int) (w : World) (hl : xs.length ≤ 1048576) (hx : Rd w ao xs) :
    Calls Try.prog 68 #[.slice ao xs.length ca] w (Gave w (ifR (relIn xs) (stepL xs)) (relIn xs)) := by
  have h1 := specRelIn_any ao ca xs w hl hx
  cases hp : relIn xs with
  | false =>
    rw [hp] at h1
    have H1 := Lib.hid h1
    clear h1 hp
    go_enter Try.func68, Try.ntmps68
    go_wp2_with (go_at_call 35; refine H1.out.mono ?_; rintro e w1 ⟨rfl, hd⟩)
    go_ret2
    have hh : w.heap.size = w1.heap.size := by rw [hd.heap]
    exact ⟨_, rfl, by rw [hh]; exact row_lit0 w1, (hd.below _).alloc (by omega) _⟩
  | true =>
    rw [hp] at h1
    have R := Rl.of hp
    have n1 := R.one
    have n4 := R.four
    have H1 := Lib.hid h1
    have HP := Lib.hid R
    clear h1 hp R
    obtain ⟨i0, hi, hz0, hz1, hz2⟩ := info_parts Try.info3
    obtain ⟨b0, off0, _, _, rfl, hbl0, _⟩ := hx.get 0 (by omega)
    go_enter Try.func68, Try.ntmps68
    go_wp2_with fail
    refine H1.out.mono ?_
    rintro e w2 ⟨rfl, hd3⟩
    have hx2 := hd3.rd hx
    have HH := Lib.hid (show w2.heap.size = w.heap.size by rw [hd3.heap])
    have hBw := hd3.below w.heap.size
    have HNEWS := Lib.hid (news_of hx2)
    clear H1 hd3 hx2 hx
    go_wp2_with (at_builtin; refine wpList_append_own _ rfl (.tmp 9) (.tmp 10) 23 rfl w2.heap.size 3 i0 (.int .i64 0) 1 8 Try.underlying23 hi hz0 hz1 hz2 rfl (by decide) _ _ _ rfl (row_lit0 w2) ⟨b0, off0, none⟩ xs.length ca (xs.map (Value.int .i64)) rfl (by simp) HNEWS.out (by simp [Value.oneCell']) (by unfold maxLen; omega) (by omega) (by simp) ?_)
    intro v0 wa hown hgrow _
    have hB1 : Below w2.heap.size w2 wa := (below_one w2 (.cells #[] 3)).grown hgrow (by simp) (fun k hk => ((row_lit0 w2).lt k hk).1)
    obtain ⟨g, cap, rfl, hg1, hg2⟩ := own_form hown n1
    rw [HH.out] at hown hB1 hg1
    have hB := hBw.trans hB1
    clear hgrow HNEWS hbl0 hBw hB1 HH
    go_wp2
    go_loopw [4] (fun v wr => ∃ zs, Hid (Rl xs.length zs ∧ sub xs.length xs zs ∧ sub xs.length zs (stepL xs)) ∧ Hid (zs.length = xs.length) ∧ ∃ g cap, v = .slice (some ⟨g, 0, none⟩) xs.length cap ∧ wr.ownsRow w.heap.size 3 1 (.slice (some ⟨g, 0, none⟩) xs.length cap) xs.length (zs.map (Value.int .i64)) ∧ Below w.heap.size w wr)
      (fun v wr => 16 - weight (rdL xs.length wr v))
    case atStart => exact ⟨xs, Lib.hid ⟨HP.out, sub.refl xs, step_has HP.out⟩, Lib.hid rfl, g, cap, rfl, hown, hB⟩
    case round =>
      clear hown hB hg1 hg2
      obtain ⟨zs, HZ, hzl, g, cap, rfl, ho, hB⟩ := hrel
      have hrd : Rd wr (some ⟨g, 0, none⟩) zs := rd_own ho hzl.out
      have HRD := Lib.hid (rdL_eq (cap := cap) hrd hzl.out)
      have hst := l6rStepped_any HZ.out.1 (some ⟨g, 0, none⟩) cap wr hrd
      rw [hzl.out] at hst
      cases hb : stepB zs with
      | true =>
        rw [hb] at hst
        have HE := Lib.hid (step_end HP.out HZ.out.1 HZ.out.2.1 HZ.out.2.2 hb)
        have HS := Lib.hid hst
        clear hst hb hrd
        go_wp2_with fail
        refine HS.out.mono ?_
        rintro e w3 ⟨rfl, hb3⟩
        have ho3 := own_keepR ho hb3 (fun k hk => (ho.lt k hk).2)
        have hB3 := hB.trans (hb3.mono hB.size)
        clear ho hB hb3
        go_wp2
        go_ret2
        rw [HE.out] at ho3
        exact ⟨_, rfl, by rw [show (ifR true (stepL xs)).length = xs.length from (stepL_rl HP.out).len]; exact ho3, hB3⟩
      | false =>
        rw [hb] at hst
        have HW := Lib.hid (trip_ne HZ.out.1 hb)
        have HS := Lib.hid hst
        clear hst hb
        go_wp2_with fail
        refine HS.out.mono ?_
        rintro e w3 ⟨rfl, hb3⟩
        have hrd3 := hrd.below hb3
        have hB3 := hB.trans (hb3.mono hB.size)
        clear ho hB hb3 hrd
        have ht := sTurn HZ.out.1 (some ⟨g, 0, none⟩) cap w3 hrd3
        rw [hzl.out] at ht
        have HT := Lib.hid ht
        clear ht
        go_wp2_with fail
        refine HT.out.mono ?_
        rintro e w4 ⟨v4, rfl, o4, hb4⟩
        obtain ⟨g4, q4, rfl, _, _, r4⟩ := GaveL.form o4 (Rl.pos HZ.out.1.turn)
        have hrd4 := hrd3.below hb4
        have hB4 := hB3.trans (hb4.mono hB3.size)
        clear o4 hb4 hB3 hrd3
        have hc := sComp HZ.out.1 HZ.out.1.turn (some ⟨g, 0, none⟩) (some ⟨g4, 0, none⟩) cap q4 w4 hrd4 r4
        rw [hzl.out] at hc
        have HC := Lib.hid hc
        clear hc
        go_wp2_with fail
        refine HC.out.mono ?_
        rintro e w5 ⟨v5, rfl, o5, hb5⟩
        obtain ⟨g5, q5, rfl, _, _, r5⟩ := GaveL.form o5 (Rl.pos (HZ.out.1.comp HZ.out.1.turn))
        have hrd5 := hrd4.below hb5
        have hB5 := hB4.trans (hb5.mono hB4.size)
        clear o5 hb5 hB4 hrd4 r4
        have hc := sComp (HZ.out.1.comp HZ.out.1.turn) HZ.out.1 (some ⟨g5, 0, none⟩) (some ⟨g, 0, none⟩) q5 cap w5 r5 hrd5
        rw [hzl.out] at hc
        have HC2 := Lib.hid hc
        clear hc
        go_wp2_with fail
        refine HC2.out.mono ?_
        rintro e w6 ⟨v6, rfl, o6, hb6⟩
        obtain ⟨g6, q6, rfl, _, _, r6⟩ := GaveL.form o6 (Rl.pos HZ.out.1.trip)
        have hB6 := hB5.trans (hb6.mono hB5.size)
        have hl6' : (compL (compL zs (turnL zs)) zs).length = xs.length := HZ.out.1.trip.len
        have o6 := own_mono o6 hB5.size
        have HT6 := Lib.hid (trip_in HZ.out.1 (stepL_rl HP.out) (step_stepped HP.out) HZ.out.2.2)
        rw [hl6'] at o6 ⊢
        have HL6 := Lib.hid (show (trip zs).length = xs.length from hl6')
        have HR6 := Lib.hid (show rdL xs.length w6 (.slice (some ⟨g6, 0, none⟩) xs.length q6) = trip zs from rdL_eq (cap := q6) r6 hl6')
        clear hb6 hB5 hrd5 r5 r6 hl6'
        go_wp2
        go_roundw
        case rel => exact ⟨trip zs, Lib.hid ⟨HZ.out.1.trip, HZ.out.2.1.trans (trip_has HZ.out.1), HT6.out⟩, HL6, g6, q6, rfl, o6, hB6⟩
        case measure =>
          have := HW.out
          have h16 := weight_le (trip zs)
          rw [HRD.out, HR6.out]
          omega
end Go.Proofs.Ytnmgoeklcmoalab
