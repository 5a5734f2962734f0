/-
  The laws FnEqu and FnEquOf: facts on equivalences and their classes, contracts with laid variables, draws.
-/
import Derived.Test.YtebkeebgjjmdbaaGreatDoorJX
import Derived.Test.YtebkeebgjjmdbaaGreatDoorJL
import Derived.Test.YtebkeebgjjmdbaaGreatDoorJH
import Derived.Test.YtebkeebgjjmdbaaGreatDoorJQ
import Derived.Test.YtebkeebgjjmdbaaGreatDoorSI
import Derived.Deep.RegionHeldLaw
namespace Go.Proofs.YtebkeebgjjmdbaaGreatDoor
open Go.RowKit

/-! what is made of classes -/
theorem equ_back : ∀ e ∈ equs, sRes e.length (clsL e) = some e ∧ kerL e = e := by decide +kernel
theorem lo_out : ∀ t c : Fin 16, hasB (c.val : Int) (lo (t.val : Int)) = true → lo (t.val : Int) < 4 := by decide +kernel
theorem forest_equ : ∀ n : Fin 4, ∀ (a : Fin 2) (b : Fin 3) (c : Fin 4), equB (forestR (n.val + 1) [0, a.val, b.val, c.val]) = true ∧ (forestR (n.val + 1) [0, a.val, b.val, c.val]).length = n.val + 1 := by decide +kernel
theorem iFold_fo {n : Nat} (h1 : 1 ≤ n) (h4 : n ≤ 4) (xs : List Int) : ∀ told ps, iFold n xs = some (told, ps) → Fo ps := by
  refine rev_ind (P := fun xs => ∀ told ps, iFold n xs = some (told, ps) → Fo ps) ?_ ?_ xs
  · intro told ps h
    cases h
    exact Fo.zero
  · intro l c ih told ps h
    rw [iFold_snoc] at h
    cases hl : iFold n l with
    | none => rw [hl] at h; cases h
    | some st =>
      obtain ⟨t0, p0⟩ := st
      rw [hl] at h
      have h : iStep n (t0, p0) c = some (told, ps) := h
      unfold iStep at h
      cases hk : iOk n t0 c with
      | false => rw [show (t0, p0).1 = t0 from rfl, hk] at h; cases h
      | true =>
        rw [show (t0, p0).1 = t0 from rfl, hk, if_pos rfl] at h
        cases h
        obtain ⟨⟨t, ht⟩, _⟩ := both_go h1 h4 l t0 p0 hl
        obtain ⟨k, hk2, rfl⟩ := iOk_range hk
        have hp := pow16 h4
        subst ht
        unfold iOk at hk
        rw [Bool.and_eq_true, Bool.and_eq_true] at hk
        exact (ih _ p0 hl).joinTo _ _ (lo_out t ⟨k, by omega⟩ hk.2.1) n h4
theorem eo_equ {n : Int} {xs : List Int} (h : eoB n xs = true) : equB (eoR n xs) = true ∧ (eoR n xs).length ≤ 4 ∧ clsL (eoR n xs) = xs := by
  cases hn : inB n 1 4 with
  | false => rw [(eo_off hn).2] at h; cases h
  | true =>
    obtain ⟨m, rfl, h1, h4⟩ := inB_nat hn
    cases hs : sRes m xs with
    | none => rw [(eo_no hs).2] at h; cases h
    | some r =>
      rw [(eo_yes h1 h4 hs).1]
      have hi := hs
      rw [res_eq h1 h4] at hi
      unfold iRes at hi
      cases hf : iFold m xs with
      | none => rw [hf] at hi; cases hi
      | some st =>
        obtain ⟨told, ps⟩ := st
        rw [hf] at hi
        obtain ⟨a, b, c, rfl⟩ := iFold_fo h1 h4 xs told ps hf
        have hi : (if told == ((2 ^ m - 1 : Nat) : Int) then some (forestR m [0, a.val, b.val, c.val]) else none) = some r := hi
        split at hi
        · have hi := Option.some.inj hi
          subst hi
          obtain ⟨k, rfl⟩ : ∃ k, m = k + 1 := ⟨m - 1, by omega⟩
          have hfo := forest_equ ⟨k, by omega⟩ a b c
          refine ⟨hfo.1, by rw [hfo.2]; exact h4, ?_⟩
          unfold sRes at hs
          cases hsf : sFold (k + 1) xs with
          | none => rw [hsf] at hs; cases hs
          | some st =>
            rw [hsf] at hs
            obtain ⟨seen, out⟩ := st
            have hs : (if seen == wrap64 (wrap64 (2 ^ (k + 1)) - 1) && decide (ownL out = xs) then some out else none) = some (forestR (k + 1) [0, a.val, b.val, c.val]) := hs
            split at hs
            · next hc =>
              rw [Bool.and_eq_true] at hc
              rw [← Option.some.inj hs, ← own_cls]
              exact of_decide_eq_true hc.2
            · cases hs
        · cases hi
theorem equ_res {n : Nat} {xs : List Int} (E : Eqv n xs) : eoR (n : Int) (clsL xs) = xs ∧ eoB (n : Int) (clsL xs) = true ∧ kerL xs = xs := by
  have h := equ_back xs (enum_all E)
  rw [E.rl.len] at h
  exact ⟨(eo_yes E.rl.one E.rl.four h.1).1, (eo_yes E.rl.one E.rl.four h.1).2, h.2⟩

/-! contracts -/
theorem gEquOf {n : Nat} {xs : List Int} (E : Eqv n xs) (ao : Option Addr) (ca : Nat) (w : World) (G : GlW w) (hx : Rd w ao (clsL xs)) : Calls Tryz.prog 9 #[.int .i64 xs.length, .slice ao (clsL xs).length ca] w (Gave w xs true) := by
  have hl : (clsL xs).length ≤ 1048576 := Nat.le_trans (clsTo_le _ _) (by have := E.rl.len; have := E.rl.four; omega)
  have := implEquOf_any xs.length ao ca (clsL xs) w hl hx G
  obtain ⟨e1, e2, _⟩ := equ_res E
  rw [E.rl.len, e1, e2] at this
  rw [E.rl.len]
  exact this
theorem gClasses {n : Nat} {xs : List Int} (E : Eqv n xs) (ao : Option Addr) (ca : Nat) (w : World) (hx : Rd w ao xs) : Calls Tryz.prog 8 #[.slice ao xs.length ca] w (Gave w (clsL xs) true) := by
  have := implEquClasses_any ao ca xs w (by have := E.rl.len; have := E.rl.four; omega) hx
  rw [(equ_iff xs).2 (by rw [E.rl.len]; exact E)] at this
  exact this
theorem gEquIn {xs : List Int} (h : equB xs = true) (h4 : xs.length ≤ 4) (ao : Option Addr) (ca : Nat) (w : World) (hx : Rd w ao xs) : Calls Tryz.prog 6 #[.slice ao xs.length ca] w fun e w' => e = .returned (.bool true) ∧ Below w.heap.size w w' := by
  have := implEquIn_any ao ca xs w (by omega) hx
  rw [h] at this
  exact this
theorem gKernel {n : Nat} {xs : List Int} (E : Eqv n xs) (ao : Option Addr) (ca : Nat) (w : World) (hx : Rd w ao xs) : Calls Tryz.prog 10 #[.slice ao xs.length ca] w (Gave w xs true) := by
  have := implEquKernel_any ao ca xs w (by have := E.rl.len; have := E.rl.four; omega) hx
  rw [E.rl.ok, show ifR true (kerL xs) = kerL xs from rfl, (equ_res E).2.2] at this
  exact this
theorem drawEquIn_any (ao : Option Addr) (c : Nat) (bs : List Nat) (w : World) (hb : RdB w ao bs) (hc : bs.length ≤ c) (hbA : bs ≠ [] → ∀ a, ao = some a → a.block < w.heap.size) :
    Calls Tryz.prog 5 #[.slice ao bs.length c] w fun e w' => ∃ (v : Value) (rs : List Int), e = .returned v ∧ rs.length ≤ 4 ∧ w'.ownsRow w.heap.size 3 1 v rs.length (rs.map (Value.int .i64)) ∧ Below w.heap.size w w' := by
  have HD := Lib.hid (l92Same_any ao c bs w hb hc hbA)
  clear hb hbA
  go_enter Tryz.func5, Tryz.ntmps5
  go_wp2_with fail
  refine HD.out.mono ?_
  rintro e w3 ⟨v, rs, rfl, hrl, ho, hB⟩
  have HR := Lib.hid (And.intro hrl (And.intro ho hB))
  clear hrl ho hB HD
  go_wp2
  go_ret
  exact ⟨v, rs, rfl, HR.out⟩
theorem wrapT (n : Nat) (h4 : n ≤ 4) : IntKind.i64.wrap (2 ^ n) = ((2 ^ n : Nat) : Int) := by
  rcases (by omega : n = 0 ∨ n = 1 ∨ n = 2 ∨ n = 3 ∨ n = 4) with rfl | rfl | rfl | rfl | rfl <;> decide +kernel
theorem DrS.hereK {w wd : World} {R : Nat} {ao : Option Addr} {bs : List Nat} {c p : Nat} (S : DrS w wd R ao bs c p) : DrS wd wd R ao bs c p :=
  ⟨S.rd, Below.refl _ _, Nat.le_refl _, fun _ _ _ => rfl⟩
/-- what the draw of a number and sets gives -/
def DrewK (w : World) (e : Ending) (w' : World) : Prop :=
  ∃ (z : Int) (v : Value) (rs : List Int), e = .returned (.tuple #[.int .i64 z, v]) ∧ rs.length ≤ 4 ∧ w'.ownsRow w.heap.size 3 1 v rs.length (rs.map (Value.int .i64)) ∧ Below w.heap.size w w'
set_option maxRecDepth 20000 in
set_option maxHeartbeats 8000000 in
theorem drawEquOf_any (ao : Option Addr) (c : Nat) (bs : List Nat) (w : World) (hb : RdB w ao bs) (hc : bs.length ≤ c) (hbA : bs ≠ [] → ∀ a, ao = some a → a.block < w.heap.size) :
    Calls Tryz.prog 12 #[.slice ao bs.length c] w (DrewK w) := by
  have HB := Lib.hid (And.intro hb hbA)
  clear hb hbA
  go_enter Tryz.func12, Tryz.ntmps12
  go_wp2_with fail
  refine (open_any ao c bs w hc).mono ?_
  rintro e w1 ⟨bs', hbs, rfl, hr, hB⟩
  have hl : bs'.length ≤ 2000 := by rw [hbs, List.length_take]; omega
  have hA : bs' ≠ [] → ∀ a, ao = some a → a.block < w.heap.size := fun h => HB.out.2 (fun e => h (by rw [hbs, e]; rfl))
  have HA := Lib.hid hA
  clear hA
  have hb1 : RdB w1 ao bs' := by rw [hbs]; exact (HB.out.1.take 2000).below hB
  have S : DrS w1 w1 w.heap.size ao bs' c 0 := ⟨hr, Below.refl _ _, Nat.le_refl _, fun _ _ _ => rfl⟩
  have HC := Lib.hid (pick_step S hb1 HA.out hl (by omega) 4 4 rfl (by omega) (by omega))
  clear hr hbs
  go_wp2_with fail
  refine HC.out.mono ?_
  rintro e w2 ⟨k, hk, rfl, S2, hss, _, _⟩
  have hb2 := hb1.keep HA.out S2.bl S2.sz
  have HD := Lib.hid (l92Equ_any S2.here hb2 HA.out hl (by omega) (1 + k) (1 + (k : Int)) (by omega) (by omega) (by omega))
  have hB2 : Below w.heap.size w w2 := hB.trans S2.bl
  have hRw : w.heap.size < w2.heap.size := (Array.getElem?_eq_some_iff.1 S2.rd).1
  have HS := Lib.hid (And.intro hB2 hb2)
  clear HC S S2 hb1 hb2 hB hB2 hss
  obtain ⟨n, hn⟩ : ∃ n, n = 1 + k := ⟨_, rfl⟩
  have hni : (1 + (k : Int)) = (n : Int) := by omega
  have h4 : n ≤ 4 := by omega
  have h16 : 2 ^ n ≤ 16 := pow16 h4
  have h01 : 1 ≤ 2 ^ n := Nat.one_le_two_pow
  rw [← hn, hni] at HD
  have HW := Lib.hid (wrapT n h4)
  have HNI := Lib.hid hni
  clear hn hni
  go_wp2_with fail
  rw [HNI.out]
  refine HD.out.mono ?_
  rintro e w3 ⟨v, rs, q, rfl, hrl, ho, hq, S4⟩
  obtain ⟨ra, rc, rfl, hrd⟩ := row_rd (show w3.ownsRow w2.heap.size 3 1 v rs.length (rs.map (Value.int .i64)) from hrl.symm ▸ ho)
  have hcl := specEquClasses_any ra rc rs w3 (by omega) hrd
  have hb3 := HS.out.2.keep HA.out S4.bl S4.sz
  have hB3 := HS.out.1.trans S4.bl
  have S5 := S4.hereK
  have hRw3 : w.heap.size < w3.heap.size := (Array.getElem?_eq_some_iff.1 S5.rd).1
  have hcll : (clsL rs).length ≤ 4 := Nat.le_trans (clsTo_le _ _) (by omega)
  have HP := Lib.hid (fun (wr : World) (p : Nat) (S : DrS w3 wr w.heap.size ao bs' c p) (hp : p ≤ 1048576) => pick_step S hb3 HA.out hl hp)
  have HQ := Lib.hid (And.intro hB3 (And.intro S5 hq))
  clear hrl ho hrd hb3 hB3 S5 S4 HD
  cases he : equB rs with
  | false =>
    rw [he] at hcl
    have HL := Lib.hid hcl
    clear hcl he hcll
    go_wp2_with fail
    refine HL.out.mono ?_
    rintro e w4 ⟨v, rfl, ho, hb4⟩
    have S6 := HQ.out.2.1.step hRw3 hb4
    have HS6 := Lib.hid S6
    have H1 := Lib.hid (HP.out w4.drew q ⟨S6.rd, S6.bl.drew, S6.sz, S6.oth⟩ (by have := HQ.out.2.2; omega) (2 ^ n) (IntKind.i64.wrap (2 ^ n)) HW.out (by omega) (by omega))
    clear ho hb4 S6 HL
    go_wp2
    go_region_held_law (fun _ => True) (trivial) (first
      | (go_at_call 29; (with_reducible refine H1.out.mono ?_); rintro e wa ⟨x, hx, rfl, Sa, hsa, _, _⟩; have H2 := Lib.hid (HP.out wa (q + 1) Sa (by have := HQ.out.2.2; omega) (2 ^ n) (IntKind.i64.wrap (2 ^ n)) HW.out (by omega) (by omega)); have HSa := Lib.hid Sa; clear Sa hsa)
      | (go_at_call 29; (with_reducible refine H2.out.mono ?_); rintro e wb ⟨y, hy, rfl, Sb, hsb, _, _⟩; have HSb := Lib.hid Sb; clear Sb hsb))
    have hB9 := HQ.out.1.trans HSb.out.bl
    go_wp2
    go_ret2
    exact ⟨(n : Int), _, [(x : Int), (y : Int)], rfl, (show 2 ≤ 4 by omega), own_mono (World.ownsRow_lit wb #[.int .i64 x, .int .i64 y] 2 (Nat.le_refl _) (by unfold maxLen; omega) rfl) hB9.size, hB9.alloc hB9.size _⟩
  | true =>
    rw [he, show ifR true (clsL rs) = clsL rs from rfl] at hcl
    have HL := Lib.hid hcl
    clear hcl he
    obtain ⟨cl, hclE⟩ : ∃ cl, clsL rs = cl := ⟨_, rfl⟩
    rw [hclE] at HL hcll
    clear hclE
    go_wp2_with fail
    refine HL.out.mono ?_
    rintro e w4 ⟨v, rfl, ho, hb4⟩
    have S6 := HQ.out.2.1.step hRw3 hb4
    have HO := Lib.hid (And.intro ho S6)
    have H1 := Lib.hid (HP.out w4 q S6 (by have := HQ.out.2.2; omega) 6 6 rfl (by omega) (by omega))
    clear ho hb4 S6 HL
    go_wp2_with fail
    refine H1.out.mono ?_
    rintro e w5 ⟨z, hz, rfl, S7, hs7, hown, _⟩
    have ho7 := hown _ _ _ _ hRw3 HO.out.1
    by_cases hz0 : z = 0
    · subst hz0
      have HS7 := Lib.hid S7
      have H2 := Lib.hid (HP.out w5.drew (q + 1) ⟨S7.rd, S7.bl.drew, S7.sz, S7.oth⟩ (by have := HQ.out.2.2; omega) (2 ^ n) (IntKind.i64.wrap (2 ^ n)) HW.out (by omega) (by omega))
      clear hown ho7 S7 hs7 H1 HO
      go_wp2
      go_region_held_law (fun _ => True) (trivial) (first
        | (go_at_call 29; (with_reducible refine H2.out.mono ?_); rintro e wa ⟨x, hx, rfl, Sa, hsa, _, _⟩; have H3 := Lib.hid (HP.out wa (q + 1 + 1) Sa (by have := HQ.out.2.2; omega) (2 ^ n) (IntKind.i64.wrap (2 ^ n)) HW.out (by omega) (by omega)); have HSa := Lib.hid Sa; clear Sa hsa)
        | (go_at_call 29; (with_reducible refine H3.out.mono ?_); rintro e wb ⟨y, hy, rfl, Sb, hsb, _, _⟩; have HSb := Lib.hid Sb; clear Sb hsb))
      have hB9 := HQ.out.1.trans HSb.out.bl
      go_wp2
      go_ret2
      exact ⟨(n : Int), _, [(x : Int), (y : Int)], rfl, (show 2 ≤ 4 by omega), own_mono (World.ownsRow_lit wb #[.int .i64 x, .int .i64 y] 2 (Nat.le_refl _) (by unfold maxLen; omega) rfl) hB9.size, hB9.alloc hB9.size _⟩
    · have e0 : (((z : Nat) : Int) == 0) = false := beq_eq_false_iff_ne.2 (by omega)
      have H2 := Lib.hid (HP.out w5 (q + 1) S7 (by have := HQ.out.2.2; omega) 24 24 rfl (by omega) (by omega))
      have HO7 := Lib.hid (And.intro ho7 hcll)
      clear hown ho7 S7 hs7 H1 HO hcll
      go_wp2_with fail
      refine H2.out.mono ?_
      rintro e w6 ⟨y, hy, rfl, S8, hs8, hown, _⟩
      have HO8 := Lib.hid (And.intro (hown _ _ _ _ hRw3 HO7.out.1) S8)
      clear hown S8 hs8 H2
      go_wp2
      go_ret2
      have hB9 := HQ.out.1.trans HO8.out.2.bl
      exact ⟨_, _, cl, rfl, HO7.out.2, own_mono HO8.out.1 HQ.out.1.size, hB9⟩
end Go.Proofs.YtebkeebgjjmdbaaGreatDoor
