/-
  The model's CompIndex; for lists of at most 2^20 numbers.
-/
import Derived.Test.YtpbkgdohfnjjpabEJ
import Derived.Test.YtpbkgdohfnjjpabEN
namespace Go.Proofs.Ytpbkgdohfnjjpab
open Go.RowKit

theorem Try.info23 : (Try.prog.info? 23).map (fun i => (i.zero, i.size, i.bytes)) = some (some (.slice none 0 0), 1, 24) := by kernel_rfl

/-- rows of their own, the first m powers -/
def PwRows (w : World) (B : Nat) (us : List Value) (xs : List Int) (m : Nat) : Prop :=
  ∀ k, k < m → ∃ g cap, us[k]? = some (.slice (some ⟨g, 0, none⟩) xs.length cap) ∧ w.ownsRow B 3 1 (.slice (some ⟨g, 0, none⟩) xs.length cap) xs.length ((powL xs k).map (Value.int .i64))
theorem rows_apart {w : World} {b1 b2 s1 s2 n1 n2 g gp c1 c2 : Nat} {u1 u2 : List Value} (h : w.ownsRow b1 3 s1 (.slice (some ⟨g, 0, none⟩) n1 c1) n1 u1) (k : w.ownsRow b2 23 s2 (.slice (some ⟨gp, 0, none⟩) n2 c2) n2 u2) : g ≠ gp := by
  rcases h.2 with ⟨h2, _⟩ | ⟨g', cap', cur', he, _, hh, _⟩
  · cases h2
  · cases he
    rcases k.2 with ⟨k2, _⟩ | ⟨gp', cap2, cur2, ke, _, kh, _⟩
    · cases k2
    · cases ke
      rintro rfl
      rw [hh] at kh
      simp at kh
theorem PwRows.keep {w w' : World} {B : Nat} {us : List Value} {xs : List Int} {m : Nat} (h : PwRows w B us xs m) (hk : ∀ g n cap u, w.ownsRow B 3 1 (.slice (some ⟨g, 0, none⟩) n cap) n u → w'.heap[g]? = w.heap[g]?) : PwRows w' B us xs m := by
  intro k hkm
  obtain ⟨g, cap, h1, h2⟩ := h k hkm
  refine ⟨g, cap, h1, h2.1, ?_⟩
  have hb := hk g _ cap _ h2
  rcases h2.2 with h3 | ⟨g', cap', cur', he, h4, h5, h6⟩
  · exact .inl h3
  · cases he
    exact .inr ⟨g, cap, cur', rfl, h4, hb.trans h5, h6⟩
theorem PwRows.below {w w' : World} {B : Nat} {us : List Value} {xs : List Int} {m : Nat} (h : PwRows w B us xs m) (hb : Below w.heap.size w w') : PwRows w' B us xs m :=
  h.keep fun g _ _ _ ho => hb.block g (ho.lt g rfl).2
theorem PwRows.snoc {w : World} {B g cap : Nat} {us : List Value} {xs : List Int} {m : Nat} (h : PwRows w B us xs m) (hl : us.length = m) (ho : w.ownsRow B 3 1 (.slice (some ⟨g, 0, none⟩) xs.length cap) xs.length ((powL xs m).map (Value.int .i64))) :
    PwRows w B (us ++ [.slice (some ⟨g, 0, none⟩) xs.length cap]) xs (m + 1) := by
  intro k hk
  by_cases e : k < m
  · obtain ⟨g', cap', h1, h2⟩ := h k e
    exact ⟨g', cap', by rw [List.getElem?_append_left (by omega)]; exact h1, h2⟩
  · obtain rfl : k = m := by omega
    exact ⟨g, cap, by rw [List.getElem?_append_right (by omega), hl, Nat.sub_self]; rfl, ho⟩
theorem sl_form {w : World} {lo n : Nat} {v : Value} {us : List Value} (h : w.ownsRow lo 23 1 v n us) (hn : 1 ≤ n) : ∃ g cap, v = .slice (some ⟨g, 0, none⟩) n cap ∧ lo ≤ g ∧ g < w.heap.size := by
  rcases h.2 with ⟨_, h2⟩ | ⟨g, cap, cur, rfl, _⟩
  · omega
  · exact ⟨g, cap, rfl, (h.lt g rfl).1, (h.lt g rfl).2⟩

set_option maxRecDepth 100000 in
set_option maxHeartbeats 8000000 in
theorem specIndex_yes (ao : Option Addr) (ca : Nat) (xs : List Int) (w : World) (hl : xs.length ≤ 1048576) (hp : relIn xs = true) (hx : Rd w ao xs) :
    Calls Try.prog 17 #[.slice ao xs.length ca] w fun e w' => ∃ m a : Nat, Rep xs m a ∧ e = .returned (.tuple #[.int .i64 a, .int .i64 ((m - a : Nat) : Int), .bool true]) ∧ Below w.heap.size w w' := by
  obtain ⟨i0, hi, hz0, hz1, hz2⟩ := info_parts Try.info23
  have h1 := specRelIn_any ao ca xs w hl hx
  rw [hp] at h1
  have R := Lib.hid (Rl.of hp)
  have HX0 := Lib.hid hx
  have H1 := Lib.hid h1
  clear h1 hp
  go_enter Try.func17, Try.ntmps17
  go_wp2_with fail
  refine H1.out.mono ?_
  rintro e w1 ⟨rfl, hd⟩
  have hx1 := hd.rd hx
  have B1 := hd.below w.heap.size
  have hh : w.heap.size = w1.heap.size := by rw [hd.heap]
  have HH := Lib.hid hh
  clear hd hh hx
  go_wp2_with fail
  refine (l1Same_any xs.length w1 R.out.one R.out.four).mono ?_
  rintro e w2 ⟨v, rfl, ho, hb⟩
  have ho1 := own_mono ho (Nat.le_of_eq HH.out)
  obtain ⟨g0, cap0, rfl, _, hg0⟩ := own_form ho1 R.out.one
  have B2 : Below w.heap.size w w2 := B1.trans (by rw [HH.out]; exact hb)
  have B3 := B2.alloc B2.size (.cells #[.slice (some ⟨g0, 0, none⟩) xs.length cap0] 23)
  have hx3 := (hx1.below hb).below (below_one w2 (.cells #[.slice (some ⟨g0, 0, none⟩) xs.length cap0] 23))
  have hrows : PwRows (w2.alloc (.cells #[.slice (some ⟨g0, 0, none⟩) xs.length cap0] 23)) w.heap.size [.slice (some ⟨g0, 0, none⟩) xs.length cap0] xs 1 := by
    intro k hk
    obtain rfl : k = 0 := by omega
    exact ⟨g0, cap0, rfl, ho1.alloc _⟩
  have hout : (w2.alloc (.cells #[.slice (some ⟨g0, 0, none⟩) xs.length cap0] 23)).ownsRow w.heap.size 23 1 (.slice (some ⟨w2.heap.size, 0, none⟩) 1 1) 1 [.slice (some ⟨g0, 0, none⟩) xs.length cap0] :=
    World.ownsRow_lit w2 _ 1 B2.size (by unfold maxLen; omega) rfl
  clear ho ho1 hb hx1 B1 B2
  go_wp2
  go_loopw [5, 6, 7] (fun p _ _ wr => ∃ (m : Nat) (us : List Value), 1 ≤ m ∧ wr.ownsRow w.heap.size 23 1 p m us ∧ PwRows wr w.heap.size us xs m ∧ Rd wr ao xs ∧ NewTo xs m ∧ Below w.heap.size w wr)
    (fun p _ _ _ => 65537 - lenOf p)
  case atStart => exact ⟨1, _, Nat.le_refl _, hout, hrows, hx3, fun i j h1 h2 => by omega, B3⟩
  case round =>
    clear hout hrows hx3 B3
    obtain ⟨m, us, hm1, ho, hrows, hx, hnew, hB⟩ := hrel
    obtain ⟨gp, cap, rfl, hg1, hg2⟩ := sl_form ho hm1
    have hm2 := new_le R.out m hnew
    have hul : us.length = m := by have := ho.1; omega
    obtain ⟨k, rfl⟩ : ∃ k, m = k + 1 := ⟨m - 1, by omega⟩
    obtain ⟨gk, ck, hu, hok⟩ := hrows k (by omega)
    have hc1 := ho.cellAt k (by omega)
    rw [hu] at hc1
    have hlk := (R.out.pow k).len
    have hcomp := sComp (R.out.pow k) R.out (some ⟨gk, 0, none⟩) ao ck ca wr (rd_own hok hlk) hx
    rw [hlk] at hcomp
    have hwk := wrap_of (k : Int) (by omega) (by omega)
    have hi1 : (k : Int) < (k : Int) + 1 := by omega
    have hi0 : 0 ≤ (k : Int) := by omega
    have HC := Lib.hid (And.intro hcomp (And.intro hnew (And.intro hrows (And.intro hul ho))))
    clear hcomp hnew hrows hul hu hok ho hlk
    go_wp2_with fail
    refine HC.out.1.mono ?_
    rintro e w3 ⟨v3, rfl, ho3, hb3⟩
    have hl3 : (compL (powL xs k) xs).length = xs.length := (R.out.pow (k + 1)).len
    rw [hl3] at ho3
    have hnext := own_mono ho3 hB.size
    obtain ⟨gn, cn, rfl, _, hgn⟩ := own_form hnext R.out.one
    have hrows3 := HC.out.2.2.1.below hb3
    have ho4 := own_keepR HC.out.2.2.2.2 hb3 (fun q hq => (HC.out.2.2.2.2.lt q hq).2)
    have hx3 := hx.below hb3
    have B3 := hB.trans (hb3.mono hB.size)
    clear ho3 hb3 hB hx hc1 hl3 hi1 hi0 hwk
    go_wp2
    go_loopw [7] (fun i W => ∃ j : Nat, j ≤ k + 1 ∧ i = .int .i64 j ∧ (∀ t, t < j → powL xs t ≠ powL xs (k + 1)) ∧ Dn w3 W)
      (fun i _ => k + 1 - (intOf i).toNat)
    case atStart => exact ⟨0, Nat.zero_le _, rfl, fun t ht => by omega, Dn.refl _⟩
    case round =>
      obtain ⟨j, hj, rfl, hne, hD⟩ := hrel
      have HNE := Lib.hid hne
      clear hne
      by_cases hlt : j < k + 1
      · obtain ⟨gj, cj, hu, hoj⟩ := hrows3 j hlt
        have hc1 := (hD.row ho4).cellAt j (by omega)
        rw [hu] at hc1
        have hlj := (R.out.pow j).len
        have hln := (R.out.pow (k + 1)).len
        have heq := l2Equal_any (some ⟨gj, 0, none⟩) (some ⟨gn, 0, none⟩) cj cn (powL xs j) (powL xs (k + 1)) wr (by omega) (by omega) (rd_own (hD.row hoj) hlj) (rd_own (hD.row hnext) hln)
        rw [hlj, hln] at heq
        have hi1 : (j : Int) < (k : Int) + 1 := by omega
        have hi2 : (j : Int) < ((k + 1 : Nat) : Int) := by omega
        cases hd : decide (powL xs j = powL xs (k + 1)) with
        | true =>
          rw [hd] at heq
          have HQ := Lib.hid (And.intro heq hd)
          clear heq hd hlj hln hu hoj
          go_wp2_with fail
          refine HQ.out.1.mono ?_
          rintro e w4 ⟨rfl, hd4⟩
          go_wp2
          go_ret3
          have hsub : ((k + 1 - j : Nat) : Int) = (k : Int) + 1 - (j : Int) := by omega
          exact ⟨k + 1, j, ⟨hlt, (of_decide_eq_true HQ.out.2).symm, HC.out.2.1⟩, by rw [hsub]; rfl, B3.trans ((hD.trans hd4).below _)⟩
        | false =>
          rw [hd] at heq
          have HQ := Lib.hid (And.intro heq hd)
          clear heq hd hlj hln hu hoj
          go_wp2_with fail
          refine HQ.out.1.mono ?_
          rintro e w4 ⟨rfl, hd4⟩
          go_wp2
          go_roundw
          case rel =>
            refine ⟨j + 1, by omega, by go_num, ?_, hD.trans hd4⟩
            intro t ht
            by_cases e : t = j
            · subst e
              exact of_decide_eq_false HQ.out.2
            · exact HNE.out t (by omega)
          case measure => simp [intOf]; omega
      · obtain rfl : j = k + 1 := by omega
        clear hlt
        have ho5 := hD.row ho4
        have hrows5 : PwRows wr w.heap.size us xs (k + 1) := hrows3.keep (fun g _ _ _ _ => by rw [hD.heap])
        have hnext5 := hD.row hnext
        have hx5 := hD.rd hx3
        have B5 := B3.trans (hD.below _)
        have hg5 := (ho5.lt gp rfl).2
        have hul := HC.out.2.2.2.1
        have HUL := Lib.hid hul
        clear hul ho4 hrows3 hnext hx3 B3
        go_wp2_with (at_builtin; refine wpList_append_own _ rfl (.tmp 40) (.tmp 42) 66 rfl w.heap.size 23 i0 (.slice none 0 0) 1 24 Try.underlying66 hi hz0 hz1 hz2 rfl (by decide) _ _ _ rfl (ho5.alloc _) ⟨wr.heap.size, 0, none⟩ 1 1 [_] rfl rfl (cell_one_new _ _ _) (by simp [Value.oneCell']) (by unfold maxLen; omega) (by omega) (by have := B5.size; simp; omega) ?_)
        intro v' w6 hown' hgrow _
        have hB6 : Below w.heap.size w w6 := (B5.alloc B5.size _).grown hgrow (by have := B5.size; simp; omega) (fun q hq => (ho5.lt q hq).1)
        have hkeep : ∀ g n cap u, (wr.alloc (.cells #[.slice (some ⟨gn, 0, none⟩) xs.length cn] 23)).ownsRow w.heap.size 3 1 (.slice (some ⟨g, 0, none⟩) n cap) n u → w6.heap[g]? = (wr.alloc (.cells #[.slice (some ⟨gn, 0, none⟩) xs.length cn] 23)).heap[g]? := by
          intro g n cap' u ho
          refine hgrow.block g (ho.lt g rfl).2 ?_
          have := rows_apart ho (ho5.alloc (.cells #[.slice (some ⟨gn, 0, none⟩) xs.length cn] 23))
          simp [Value.ownBlock]
          omega
        have hrows6 : PwRows w6 w.heap.size (us ++ [.slice (some ⟨gn, 0, none⟩) xs.length cn]) xs (k + 1 + 1) :=
          PwRows.keep ((hrows5.below (below_one wr _)).snoc HUL.out (hnext5.alloc _)) hkeep
        have hx6 : Rd w6 ao xs := HX0.out.below hB6
        have hnew6 : NewTo xs (k + 1 + 1) := new_step (k + 1) HC.out.2.1 HNE.out
        have hbound := new_le R.out (k + 1 + 1) hnew6
        obtain ⟨g', cap', rfl, _, _⟩ := sl_form hown' (by omega)
        have HO := Lib.hid (And.intro hown' (And.intro hrows6 (And.intro hx6 (And.intro hnew6 hB6))))
        clear hown' hgrow hrows6 hx6 hnew6 hB6 hkeep ho5 hrows5 hnext5 hx5 B5
        go_wp2
        go_roundw
        case rel => exact ⟨k + 1 + 1, _, by omega, HO.out.1, HO.out.2.1, HO.out.2.2.1, HO.out.2.2.2.1, HO.out.2.2.2.2⟩
        case measure => simp [lenOf]; omega

theorem specCompIndex_any (ao : Option Addr) (ca : Nat) (xs : List Int) (w : World) (hl : xs.length ≤ 1048576) (hx : Rd w ao xs) :
    Calls Try.prog 17 #[.slice ao xs.length ca] w fun e w' => e = .returned (.tuple #[.int .i64 (ifN (relIn xs) (roundA xs)), .int .i64 (ifN (relIn xs) ((roundM xs - roundA xs : Nat) : Int)), .bool (relIn xs)]) ∧ Below w.heap.size w w' := by
  have h1 := specRelIn_any ao ca xs w hl hx
  cases hp : relIn xs with
  | false =>
    rw [hp] at h1
    have H1 := Lib.hid h1
    clear h1 hp
    go_enter Try.func17, Try.ntmps17
    go_wp2_with (go_at_call 44; refine H1.out.mono ?_; rintro e w1 ⟨rfl, hd⟩)
    go_ret3
    exact ⟨rfl, hd.below _⟩
  | true =>
    refine (specIndex_yes ao ca xs w hl hp hx).mono ?_
    rintro e w' ⟨m, a, hr, rfl, hb⟩
    obtain ⟨e1, e2⟩ := round_eq (Rl.of hp) hr
    exact ⟨by rw [e1, e2]; rfl, hb⟩
end Go.Proofs.Ytpbkgdohfnjjpab
