/-
  The draw of a relation: l6Rd.of, l91Rel, l91Some.
-/
import Derived.Test.YtgmjdkhegbdbjaaDD
namespace Go.Proofs.Ytgmjdkhegbdbjaa
open Go.RowKit

/-- a reader in its block, nothing below it touched -/
structure DrS (w wr : World) (R : Nat) (ao : Option Addr) (bs : List Nat) (c p : Nat) : Prop where
  rd : RdrAt wr R ao bs.length c p
  bl : Below R w wr
  sz : w.heap.size ≤ wr.heap.size
  oth : ∀ b, b < w.heap.size → b ≠ R → wr.heap[b]? = w.heap[b]?
theorem RdB.keep {w wr : World} {R : Nat} {ao : Option Addr} {bs : List Nat} (h : RdB w ao bs) (hbR : bs ≠ [] → ∀ a, ao = some a → a.block < R) (hb : Below R w wr) (hs : w.heap.size ≤ wr.heap.size) : RdB wr ao bs := by
  intro k x hx
  obtain ⟨h0, b, off, h1, h2, h3⟩ := h k x hx
  exact ⟨h0, b, off, h1, Nat.lt_of_lt_of_le h2 hs, (hb.cell (p := ⟨b, off + k, none⟩) (show b < R from hbR (fun e => by rw [e] at hx; simp at hx) ⟨b, off, none⟩ h1)).trans h3⟩

theorem pick_step {w wr : World} {R : Nat} {ao : Option Addr} {bs : List Nat} {c p : Nat} (S : DrS w wr R ao bs c p) (hb : RdB w ao bs) (hbR : bs ≠ [] → ∀ a, ao = some a → a.block < R) (hl : bs.length ≤ 2000) (hp : p ≤ 1048576) (m : Nat) (mi : Int) (hmi : mi = (m : Int)) (h1 : 1 ≤ m) (hm : m ≤ 1048576) :
    Calls Try.prog 51 #[.pointer (some ⟨R, 0, none⟩), .int .i64 mi] wr fun e w' => ∃ k : Nat, k < m ∧ e = .returned (.int .i64 k) ∧ DrS w w' R ao bs c (p + 1) ∧ wr.heap.size = w'.heap.size ∧
      (∀ (base : Nat) (v : Value) (n : Nat) (us : List Value), R < base → wr.ownsRow base 3 1 v n us → w'.ownsRow base 3 1 v n us) ∧ (∀ q : Addr, q.block ≠ R → w'.cell? q = wr.cell? q) := by
  subst hmi
  refine (pick_any R ao c bs p m wr S.rd (hb.keep hbR S.bl S.sz) (fun hne a ha => Nat.ne_of_lt (hbR hne a ha)) hl hp h1 hm).mono ?_
  rintro e w' ⟨k, hk, rfl, hd⟩
  have hss : wr.heap.size = w'.heap.size := by rw [hd.heap]; simp
  refine ⟨k, hk, rfl, ⟨S.rd.next hd, (S.bl.setCell (p := ⟨R, 1, none⟩) (Nat.le_refl _) _).trans (hd.below _), by rw [← hss]; exact S.sz, fun b hlt hne => by rw [hd.heap]; exact (Below.heap_setCell _ ⟨R, 1, none⟩ _ b hne).trans (S.oth b hlt hne)⟩, hss, ?_, ?_⟩
  · intro base v n us hlt ho
    exact hd.row (ownsRow_setCell_below ho (a := ⟨R, 1, none⟩) hlt _)
  · intro q hq
    rw [hd.cell]
    exact World.cell?_of_block (Below.heap_setCell _ _ _ _ hq)

theorem of_step {w wr : World} {R : Nat} {ao : Option Addr} {bs : List Nat} {c p : Nat} (S : DrS w wr R ao bs c p) (hb : RdB w ao bs) (hbR : bs ≠ [] → ∀ a, ao = some a → a.block < R) (hl : bs.length ≤ 2000) (hp : p ≤ 1048576)
    (g cap : Nat) (sts : List ByteArray) (hg : g ≠ R) (hs : ∀ k st, sts[k]? = some st → wr.cell? ⟨g, k, none⟩ = some (.string st)) (h1 : 1 ≤ sts.length) (hm : sts.length ≤ 1048576) :
    Calls Try.prog 101 #[.pointer (some ⟨R, 0, none⟩), .slice (some ⟨g, 0, none⟩) sts.length cap] wr fun e w' => ∃ st, st ∈ sts ∧ e = .returned (.string st) ∧ DrS w w' R ao bs c (p + 1) ∧ wr.heap.size = w'.heap.size ∧
      (∀ (base : Nat) (v : Value) (n : Nat) (us : List Value), R < base → wr.ownsRow base 3 1 v n us → w'.ownsRow base 3 1 v n us) := by
  have HC := Lib.hid (pick_step S hb hbR hl hp sts.length _ rfl h1 hm)
  have HS := Lib.hid hs
  clear hs S hb hbR
  go_enter Try.func101, Try.ntmps101
  go_wp2_with fail
  refine HC.out.mono ?_
  rintro e w1 ⟨k, hk, rfl, S, hss, hown, hcell⟩
  have hk1 : ((k : Nat) : Int) < (sts.length : Int) := by omega
  obtain ⟨st, hst⟩ : ∃ st, sts[k]? = some st := ⟨_, List.getElem?_eq_getElem hk⟩
  have hc := (hcell ⟨g, k, none⟩ hg).trans (HS.out k st hst)
  have HR := Lib.hid (And.intro S (And.intro hss (And.intro hown (List.mem_of_getElem? hst))))
  clear hcell hown S hss hst HC
  go_wp2
  go_ret
  exact ⟨st, HR.out.2.2.2, rfl, HR.out.1, HR.out.2.1, HR.out.2.2.1⟩

theorem and1616 : ∀ z y : Fin 16, ∃ u : Fin 16, bits .and .i64 (z.val : Int) (y.val : Int) = (u.val : Int) := by decide +kernel
theorem pt16 (k : Nat) (h : k < 4) : ∃ u : Fin 16, pt k = (u.val : Int) := by
  rcases (by omega : k = 0 ∨ k = 1 ∨ k = 2 ∨ k = 3) with rfl | rfl | rfl | rfl
  · exact ⟨1, rfl⟩
  · exact ⟨2, rfl⟩
  · exact ⟨4, rfl⟩
  · exact ⟨8, rfl⟩
theorem In16.snoc {xs : List Int} (h : In16 xs) (z : Fin 16) : In16 (xs ++ [(z.val : Int)]) := by
  intro k
  unfold rowAt
  rw [List.getD_eq_getElem?_getD, List.getElem?_append]
  split
  · have := h k
    unfold rowAt at this
    rwa [List.getD_eq_getElem?_getD] at this
  · rcases Nat.eq_or_lt_of_le (Nat.zero_le (k - xs.length)) with e | e
    · rw [← e]; exact ⟨z, rfl⟩
    · rw [List.getElem?_eq_none (by simp; omega)]; exact ⟨0, rfl⟩

theorem DrS.step {w wr w2 : World} {R : Nat} {ao : Option Addr} {bs : List Nat} {c p : Nat} (S : DrS w wr R ao bs c p) (hRw : R < w.heap.size) (hb : Below w.heap.size wr w2) : DrS w w2 R ao bs c p :=
  ⟨(hb.block R hRw).trans S.rd, S.bl.trans (hb.mono (by omega)), Nat.le_trans S.sz hb.size, fun b hlt hne => (hb.block b hlt).trans (S.oth b hlt hne)⟩
theorem map_snoc (xs : List Int) (x : Int) : xs.map (Value.int .i64) ++ [Value.int .i64 x] = (xs ++ [x]).map (Value.int .i64) := by simp

/-- what stands ahead of a round of the draw's first loop -/
def DrI (w wr : World) (R : Nat) (ao : Option Addr) (bs : List Nat) (c p k : Nat) (v : Value) : Prop :=
  ∃ (q : Nat) (rs : List Int), rs.length = k ∧ In16 rs ∧ q ≤ p + 1 + 2 * k ∧ wr.ownsRow w.heap.size 3 1 v k (rs.map (Value.int .i64)) ∧ DrS w wr R ao bs c q



theorem shr16 : ∀ x : Fin 16, ∀ j : Fin 4, ∃ u : Fin 16, bits .or .i64 (wrap64 ((x.val : Int) / 2 ^ j.val * 2 ^ j.val)) (wrap64 (2 ^ j.val)) = (u.val : Int) := by decide +kernel
theorem shr16' (x : Fin 16) (j : Nat) (hj : j < 4) : ∃ u : Fin 16, bits .or .i64 (wrap64 ((x.val : Int) / 2 ^ j * 2 ^ j)) (wrap64 (2 ^ j)) = (u.val : Int) := shr16 x ⟨j, hj⟩
theorem In16.set {xs : List Int} (h : In16 xs) (j : Nat) (u : Fin 16) : In16 (xs.set j (u.val : Int)) := by
  intro k
  unfold rowAt
  rw [List.getD_eq_getElem?_getD, List.getElem?_set]
  split
  · split
    · exact ⟨u, rfl⟩
    · exact ⟨0, rfl⟩
  · have := h k
    unfold rowAt at this
    rwa [List.getD_eq_getElem?_getD] at this

/-- the texts that are drawn from -/
def six : List ByteArray := [⟨#[114, 115, 116]⟩, ⟨#[115, 116]⟩, ⟨#[114, 116]⟩, ⟨#[116]⟩, ⟨#[115]⟩, ⟨#[114]⟩]
theorem six_size : ∀ st ∈ six, st.size ≤ 1048576 := by decide
theorem six_cells (w : World) (k : Nat) (st : ByteArray) (h : six[k]? = some st) :
    (w.alloc (.cells #[.string ⟨#[114, 115, 116]⟩, .string ⟨#[115, 116]⟩, .string ⟨#[114, 116]⟩, .string ⟨#[116]⟩, .string ⟨#[115]⟩, .string ⟨#[114]⟩] 9)).cell? ⟨w.heap.size, k, none⟩ = some (.string st) := by
  have hn := World.alloc_heap_new w (.cells #[.string ⟨#[114, 115, 116]⟩, .string ⟨#[115, 116]⟩, .string ⟨#[114, 116]⟩, .string ⟨#[116]⟩, .string ⟨#[115]⟩, .string ⟨#[114]⟩] 9)
  simp only [World.cell?, hn]
  have hk : k < 6 := (List.getElem?_eq_some_iff.1 h).1
  rcases (by omega : k = 0 ∨ k = 1 ∨ k = 2 ∨ k = 3 ∨ k = 4 ∨ k = 5) with rfl | rfl | rfl | rfl | rfl | rfl <;> (cases h; rfl)




set_option maxRecDepth 100000 in
set_option maxHeartbeats 8000000 in
theorem l91Rel_any {w : World} {R : Nat} {ao : Option Addr} {bs : List Nat} {c p : Nat} (S : DrS w w R ao bs c p) (hb : RdB w ao bs) (hbR : bs ≠ [] → ∀ a, ao = some a → a.block < R) (hl : bs.length ≤ 2000) (hp : p ≤ 1000) (n : Nat) (ni : Int) (hni : ni = (n : Int)) (h1 : 1 ≤ n) (h4 : n ≤ 4) :
    Calls Try.prog 70 #[.pointer (some ⟨R, 0, none⟩), .int .i64 ni] w fun e w' => ∃ (v : Value) (rs : List Int) (q : Nat), e = .returned v ∧ rs.length = n ∧ w'.ownsRow w.heap.size 3 1 v n (rs.map (Value.int .i64)) ∧ q ≤ p + 16 ∧ DrS w w' R ao bs c q := by
  subst hni
  have hRw : R < w.heap.size := (Array.getElem?_eq_some_iff.1 S.rd).1
  have HP := Lib.hid (fun (wr : World) (p : Nat) (S : DrS w wr R ao bs c p) (hp : p ≤ 1048576) => pick_step S hb hbR hl hp)
  obtain ⟨i0, hi, hz0, hz1, hz2⟩ := info_parts Try.info3
  obtain ⟨M, hM, hM1, hM2⟩ : ∃ M : Nat, wrap64 (2 ^ n) = (M : Int) ∧ 1 ≤ M ∧ M ≤ 16 := by
    rcases (by omega : n = 1 ∨ n = 2 ∨ n = 3 ∨ n = 4) with rfl | rfl | rfl | rfl
    · exact ⟨2, by decide +kernel, by omega, by omega⟩
    · exact ⟨4, by decide +kernel, by omega, by omega⟩
    · exact ⟨8, by decide +kernel, by omega, by omega⟩
    · exact ⟨16, by decide +kernel, by omega, by omega⟩
  go_enter Try.func70, Try.ntmps70
  go_wp2_with fail
  have S0 : DrS w (w.alloc (.cells #[] 3)) R ao bs c p := ⟨(Below.heap_alloc w _ R hRw).trans S.rd, (below_one w _).mono (by omega), by simp, fun b hlt _ => Below.heap_alloc w _ b hlt⟩
  refine (HP.out _ p S0 (by omega) 6 _ rfl (by omega) (by omega)).mono ?_
  rintro e w1 ⟨kd, hkd, rfl, S1, hs1, hown, _⟩
  have ho1 := hown _ _ _ _ hRw (row_lit0 w)
  clear hown S0 S
  rcases (by omega : kd = 0 ∨ kd = 1 ∨ kd = 2 ∨ kd = 3 ∨ kd = 4 ∨ kd = 5) with rfl | rfl | rfl | rfl | rfl | rfl
  · go_wp2
    go_loopw [5, 7, 8] (fun v i _ wr => ∃ k : Nat, k ≤ n ∧ i = .int .i64 k ∧ DrI w wr R ao bs c p k v)
      (fun _ i _ _ => n - (intOf i).toNat)
    case atStart => exact ⟨0, Nat.zero_le _, rfl, p + 1, [], rfl, fun k => ⟨0, by simp [rowAt]⟩, by omega, ho1, S1⟩
    case round =>
      clear ho1 S1 hs1
      obtain ⟨k, hk, rfl, q, rs, hrl, hrs, hq, ho, S⟩ := hrel
      by_cases hlt : k < n
      · go_wp2_with fail
        refine (HP.out _ q S (by omega) M _ rfl (by omega) (by omega)).mono ?_
        rintro e wc ⟨x, hx, rfl, S1, hs1, hown, _⟩
        have ho1 := hown _ _ _ _ hRw ho
        clear hown S ho
        have S := S1
        have ho := ho1
        clear S1 ho1
        go_wp2_with (at_builtin; refine wpList_append_own _ rfl (.tmp 45) (.tmp 47) 22 rfl w.heap.size 3 i0 (.int .i64 0) 1 8 Try.underlying22 hi hz0 hz1 hz2 rfl (by decide) _ _ _ rfl (ho.alloc _) ⟨wc.heap.size, 0, none⟩ 1 1 [_] rfl rfl (cell_one_new _ _ _) (by simp [Value.oneCell']) (by unfold maxLen; omega) (by omega) (by have := S.sz; simp; omega) ?_)
        intro v' w2 hown' hgrow _
        have hb' := own_step' ho (Below.refl _ _) S.sz _ hgrow
        have S' := S.step hRw hb'
        obtain ⟨u, hu⟩ := (⟨⟨x, by omega⟩, rfl⟩ : ∃ u : Fin 16, _ = (u.val : Int))
        rw [hu, map_snoc] at hown'
        clear ho S hgrow hb' HP
        go_wp2
        go_roundw
        case rel => exact ⟨k + 1, by omega, by go_num, _, rs ++ [(u.val : Int)], by rw [List.length_append, hrl]; rfl, hrs.snoc u, (by first | (show q + 1 + 1 ≤ _; omega) | (show q + 1 ≤ _; omega)), hown', S'⟩
        case measure => simp [intOf]; omega
      · have hkn : k = n := by omega
        subst hkn
        obtain ⟨g, cap, rfl, hg1, hg2⟩ := own_form ho h1
        obtain ⟨wc, hwc⟩ : ∃ wc, wr = wc := ⟨_, rfl⟩
        rw [hwc] at ho S hg2 ⊢
        clear hwc
        go_wp2_with fail
        refine (HP.out _ _ S (by omega) 40 _ rfl (by omega) (by omega)).mono ?_
        rintro e wd ⟨z, hz, rfl, S2, hs2, hown, _⟩
        have ho2 := hown _ _ _ _ hRw ho
        clear hown S ho HP
        by_cases hz0 : z = 0
        · subst hz0
          obtain ⟨y0, hy0⟩ : ∃ y, (rs.map (Value.int .i64))[0]? = some y := ⟨_, List.getElem?_eq_getElem (by simp; omega)⟩
          have hc1 := ho2.cellAt 0 (by omega)
          have hf1 := ho2.frozenAt 0
          rw [hy0] at hc1
          clear hy0
          go_wp2
          go_ret
          have h := (ho2.stored 0 (.int .i64 (M : Int))).1
          rw [← List.map_set] at h
          exact ⟨_, rs.set 0 (M : Int), _, rfl, by rw [List.length_set]; exact hrl, h, (by first | (show q + 1 ≤ _; omega) | (show q + 1 + 1 ≤ _; omega)), S2.step hRw ((Below.refl _ _).setCell (by simp; omega) _)⟩
        · have e0 : (((z : Nat) : Int) == 0) = false := beq_eq_false_iff_ne.2 (by omega)
          go_wp2
          go_ret
          exact ⟨_, rs, _, rfl, hrl, ho2, (by first | (show q + 1 ≤ _; omega) | (show q + 1 + 1 ≤ _; omega)), S2⟩
  · go_wp2
    go_loopw [5, 7, 8] (fun v i _ wr => ∃ k : Nat, k ≤ n ∧ i = .int .i64 k ∧ DrI w wr R ao bs c p k v)
      (fun _ i _ _ => n - (intOf i).toNat)
    case atStart => exact ⟨0, Nat.zero_le _, rfl, p + 1, [], rfl, fun k => ⟨0, by simp [rowAt]⟩, by omega, ho1, S1⟩
    case round =>
      clear ho1 S1 hs1
      obtain ⟨k, hk, rfl, q, rs, hrl, hrs, hq, ho, S⟩ := hrel
      by_cases hlt : k < n
      · go_wp2_with fail
        refine (HP.out _ q S (by omega) M _ rfl (by omega) (by omega)).mono ?_
        rintro e wc ⟨x, hx, rfl, S1, hs1, hown, _⟩
        have ho1 := hown _ _ _ _ hRw ho
        clear hown S ho
        go_wp2_with fail
        refine (HP.out _ _ S1 (by omega) M _ rfl (by omega) (by omega)).mono ?_
        rintro e wc ⟨y, hy, rfl, S, hs2, hown, _⟩
        have ho := hown _ _ _ _ hRw ho1
        clear hown S1 ho1
        go_wp2_with (at_builtin; refine wpList_append_own _ rfl (.tmp 45) (.tmp 47) 22 rfl w.heap.size 3 i0 (.int .i64 0) 1 8 Try.underlying22 hi hz0 hz1 hz2 rfl (by decide) _ _ _ rfl (ho.alloc _) ⟨wc.heap.size, 0, none⟩ 1 1 [_] rfl rfl (cell_one_new _ _ _) (by simp [Value.oneCell']) (by unfold maxLen; omega) (by omega) (by have := S.sz; simp; omega) ?_)
        intro v' w2 hown' hgrow _
        have hb' := own_step' ho (Below.refl _ _) S.sz _ hgrow
        have S' := S.step hRw hb'
        obtain ⟨u, hu⟩ := ((and1616 ⟨x, by omega⟩ ⟨y, by omega⟩) : ∃ u : Fin 16, _ = (u.val : Int))
        rw [hu, map_snoc] at hown'
        clear ho S hgrow hb' HP
        go_wp2
        go_roundw
        case rel => exact ⟨k + 1, by omega, by go_num, _, rs ++ [(u.val : Int)], by rw [List.length_append, hrl]; rfl, hrs.snoc u, (by first | (show q + 1 + 1 ≤ _; omega) | (show q + 1 ≤ _; omega)), hown', S'⟩
        case measure => simp [intOf]; omega
      · have hkn : k = n := by omega
        subst hkn
        obtain ⟨g, cap, rfl, hg1, hg2⟩ := own_form ho h1
        obtain ⟨wc, hwc⟩ : ∃ wc, wr = wc := ⟨_, rfl⟩
        rw [hwc] at ho S hg2 ⊢
        clear hwc
        go_wp2_with fail
        refine (HP.out _ _ S (by omega) 40 _ rfl (by omega) (by omega)).mono ?_
        rintro e wd ⟨z, hz, rfl, S2, hs2, hown, _⟩
        have ho2 := hown _ _ _ _ hRw ho
        clear hown S ho HP
        by_cases hz0 : z = 0
        · subst hz0
          obtain ⟨y0, hy0⟩ : ∃ y, (rs.map (Value.int .i64))[0]? = some y := ⟨_, List.getElem?_eq_getElem (by simp; omega)⟩
          have hc1 := ho2.cellAt 0 (by omega)
          have hf1 := ho2.frozenAt 0
          rw [hy0] at hc1
          clear hy0
          go_wp2
          go_ret
          have h := (ho2.stored 0 (.int .i64 (M : Int))).1
          rw [← List.map_set] at h
          exact ⟨_, rs.set 0 (M : Int), _, rfl, by rw [List.length_set]; exact hrl, h, (by first | (show q + 1 ≤ _; omega) | (show q + 1 + 1 ≤ _; omega)), S2.step hRw ((Below.refl _ _).setCell (by simp; omega) _)⟩
        · have e0 : (((z : Nat) : Int) == 0) = false := beq_eq_false_iff_ne.2 (by omega)
          go_wp2
          go_ret
          exact ⟨_, rs, _, rfl, hrl, ho2, (by first | (show q + 1 ≤ _; omega) | (show q + 1 + 1 ≤ _; omega)), S2⟩
  · go_wp2
    go_loopw [5, 7, 8] (fun v i _ wr => ∃ k : Nat, k ≤ n ∧ i = .int .i64 k ∧ DrI w wr R ao bs c p k v)
      (fun _ i _ _ => n - (intOf i).toNat)
    case atStart => exact ⟨0, Nat.zero_le _, rfl, p + 1, [], rfl, fun k => ⟨0, by simp [rowAt]⟩, by omega, ho1, S1⟩
    case round =>
      clear ho1 S1 hs1
      obtain ⟨k, hk, rfl, q, rs, hrl, hrs, hq, ho, S⟩ := hrel
      by_cases hlt : k < n
      · go_wp2_with fail
        refine (HP.out _ q S (by omega) M _ rfl (by omega) (by omega)).mono ?_
        rintro e wc ⟨x, hx, rfl, S1, hs1, hown, _⟩
        have ho1 := hown _ _ _ _ hRw ho
        clear hown S ho
        go_wp2_with fail
        refine (HP.out _ _ S1 (by omega) n _ rfl (by omega) (by omega)).mono ?_
        rintro e wc ⟨y, hy, rfl, S, hs2, hown, _⟩
        have ho := hown _ _ _ _ hRw ho1
        have hpt := pt_wrap y (by omega)
        obtain ⟨z, hz⟩ := pt16 y (by omega)
        rw [hz] at hpt
        clear hown S1 ho1
        go_wp2_with (at_builtin; refine wpList_append_own _ rfl (.tmp 45) (.tmp 47) 22 rfl w.heap.size 3 i0 (.int .i64 0) 1 8 Try.underlying22 hi hz0 hz1 hz2 rfl (by decide) _ _ _ rfl (ho.alloc _) ⟨wc.heap.size, 0, none⟩ 1 1 [_] rfl rfl (cell_one_new _ _ _) (by simp [Value.oneCell']) (by unfold maxLen; omega) (by omega) (by have := S.sz; simp; omega) ?_)
        intro v' w2 hown' hgrow _
        have hb' := own_step' ho (Below.refl _ _) S.sz _ hgrow
        have S' := S.step hRw hb'
        obtain ⟨u, hu⟩ := (⟨z, rfl⟩ : ∃ u : Fin 16, _ = (u.val : Int))
        rw [hu, map_snoc] at hown'
        clear ho S hgrow hb' HP
        go_wp2
        go_roundw
        case rel => exact ⟨k + 1, by omega, by go_num, _, rs ++ [(u.val : Int)], by rw [List.length_append, hrl]; rfl, hrs.snoc u, (by first | (show q + 1 + 1 ≤ _; omega) | (show q + 1 ≤ _; omega)), hown', S'⟩
        case measure => simp [intOf]; omega
      · have hkn : k = n := by omega
        subst hkn
        obtain ⟨g, cap, rfl, hg1, hg2⟩ := own_form ho h1
        obtain ⟨wc, hwc⟩ : ∃ wc, wr = wc := ⟨_, rfl⟩
        rw [hwc] at ho S hg2 ⊢
        clear hwc
        go_wp2_with fail
        refine (HP.out _ _ S (by omega) 40 _ rfl (by omega) (by omega)).mono ?_
        rintro e wd ⟨z, hz, rfl, S2, hs2, hown, _⟩
        have ho2 := hown _ _ _ _ hRw ho
        clear hown S ho HP
        by_cases hz0 : z = 0
        · subst hz0
          obtain ⟨y0, hy0⟩ : ∃ y, (rs.map (Value.int .i64))[0]? = some y := ⟨_, List.getElem?_eq_getElem (by simp; omega)⟩
          have hc1 := ho2.cellAt 0 (by omega)
          have hf1 := ho2.frozenAt 0
          rw [hy0] at hc1
          clear hy0
          go_wp2
          go_ret
          have h := (ho2.stored 0 (.int .i64 (M : Int))).1
          rw [← List.map_set] at h
          exact ⟨_, rs.set 0 (M : Int), _, rfl, by rw [List.length_set]; exact hrl, h, (by first | (show q + 1 ≤ _; omega) | (show q + 1 + 1 ≤ _; omega)), S2.step hRw ((Below.refl _ _).setCell (by simp; omega) _)⟩
        · have e0 : (((z : Nat) : Int) == 0) = false := beq_eq_false_iff_ne.2 (by omega)
          go_wp2
          go_ret
          exact ⟨_, rs, _, rfl, hrl, ho2, (by first | (show q + 1 ≤ _; omega) | (show q + 1 + 1 ≤ _; omega)), S2⟩
  · go_wp2
    go_loopw [5, 7, 8] (fun v i _ wr => ∃ k : Nat, k ≤ n ∧ i = .int .i64 k ∧ DrI w wr R ao bs c p k v)
      (fun _ i _ _ => n - (intOf i).toNat)
    case atStart => exact ⟨0, Nat.zero_le _, rfl, p + 1, [], rfl, fun k => ⟨0, by simp [rowAt]⟩, by omega, ho1, S1⟩
    case round =>
      clear ho1 S1 hs1
      obtain ⟨k, hk, rfl, q, rs, hrl, hrs, hq, ho, S⟩ := hrel
      by_cases hlt : k < n
      · go_wp2_with fail
        refine (HP.out _ q S (by omega) M _ rfl (by omega) (by omega)).mono ?_
        rintro e wc ⟨x, hx, rfl, S1, hs1, hown, _⟩
        have ho1 := hown _ _ _ _ hRw ho
        clear hown S ho
        have S := S1
        have ho := ho1
        have hpt := pt_wrap k (by omega)
        obtain ⟨y, hy⟩ := pt16 k (by omega)
        rw [hy] at hpt
        clear S1 ho1
        go_wp2_with (at_builtin; refine wpList_append_own _ rfl (.tmp 45) (.tmp 47) 22 rfl w.heap.size 3 i0 (.int .i64 0) 1 8 Try.underlying22 hi hz0 hz1 hz2 rfl (by decide) _ _ _ rfl (ho.alloc _) ⟨wc.heap.size, 0, none⟩ 1 1 [_] rfl rfl (cell_one_new _ _ _) (by simp [Value.oneCell']) (by unfold maxLen; omega) (by omega) (by have := S.sz; simp; omega) ?_)
        intro v' w2 hown' hgrow _
        have hb' := own_step' ho (Below.refl _ _) S.sz _ hgrow
        have S' := S.step hRw hb'
        obtain ⟨u, hu⟩ := ((or1616 ⟨x, by omega⟩ y) : ∃ u : Fin 16, _ = (u.val : Int))
        rw [hu, map_snoc] at hown'
        clear ho S hgrow hb' HP
        go_wp2
        go_roundw
        case rel => exact ⟨k + 1, by omega, by go_num, _, rs ++ [(u.val : Int)], by rw [List.length_append, hrl]; rfl, hrs.snoc u, (by first | (show q + 1 + 1 ≤ _; omega) | (show q + 1 ≤ _; omega)), hown', S'⟩
        case measure => simp [intOf]; omega
      · have hkn : k = n := by omega
        subst hkn
        obtain ⟨g, cap, rfl, hg1, hg2⟩ := own_form ho h1
        obtain ⟨wc, hwc⟩ : ∃ wc, wr = wc := ⟨_, rfl⟩
        rw [hwc] at ho S hg2 ⊢
        clear hwc
        go_wp2_with fail
        refine (HP.out _ _ S (by omega) 40 _ rfl (by omega) (by omega)).mono ?_
        rintro e wd ⟨z, hz, rfl, S2, hs2, hown, _⟩
        have ho2 := hown _ _ _ _ hRw ho
        clear hown S ho HP
        by_cases hz0 : z = 0
        · subst hz0
          obtain ⟨y0, hy0⟩ : ∃ y, (rs.map (Value.int .i64))[0]? = some y := ⟨_, List.getElem?_eq_getElem (by simp; omega)⟩
          have hc1 := ho2.cellAt 0 (by omega)
          have hf1 := ho2.frozenAt 0
          rw [hy0] at hc1
          clear hy0
          go_wp2
          go_ret
          have h := (ho2.stored 0 (.int .i64 (M : Int))).1
          rw [← List.map_set] at h
          exact ⟨_, rs.set 0 (M : Int), _, rfl, by rw [List.length_set]; exact hrl, h, (by first | (show q + 1 ≤ _; omega) | (show q + 1 + 1 ≤ _; omega)), S2.step hRw ((Below.refl _ _).setCell (by simp; omega) _)⟩
        · have e0 : (((z : Nat) : Int) == 0) = false := beq_eq_false_iff_ne.2 (by omega)
          go_wp2
          go_ret
          exact ⟨_, rs, _, rfl, hrl, ho2, (by first | (show q + 1 ≤ _; omega) | (show q + 1 + 1 ≤ _; omega)), S2⟩
  · go_wp2
    go_loopw [5, 7, 8] (fun v i _ wr => ∃ k : Nat, k ≤ n ∧ i = .int .i64 k ∧ DrI w wr R ao bs c p k v)
      (fun _ i _ _ => n - (intOf i).toNat)
    case atStart => exact ⟨0, Nat.zero_le _, rfl, p + 1, [], rfl, fun k => ⟨0, by simp [rowAt]⟩, by omega, ho1, S1⟩
    case round =>
      clear ho1 S1 hs1
      obtain ⟨k, hk, rfl, q, rs, hrl, hrs, hq, ho, S⟩ := hrel
      by_cases hlt : k < n
      · go_wp2_with fail
        refine (HP.out _ q S (by omega) M _ rfl (by omega) (by omega)).mono ?_
        rintro e wc ⟨x, hx, rfl, S1, hs1, hown, _⟩
        have ho1 := hown _ _ _ _ hRw ho
        clear hown S ho
        have S := S1
        have ho := ho1
        clear S1 ho1
        go_wp2_with (at_builtin; refine wpList_append_own _ rfl (.tmp 45) (.tmp 47) 22 rfl w.heap.size 3 i0 (.int .i64 0) 1 8 Try.underlying22 hi hz0 hz1 hz2 rfl (by decide) _ _ _ rfl (ho.alloc _) ⟨wc.heap.size, 0, none⟩ 1 1 [_] rfl rfl (cell_one_new _ _ _) (by simp [Value.oneCell']) (by unfold maxLen; omega) (by omega) (by have := S.sz; simp; omega) ?_)
        intro v' w2 hown' hgrow _
        have hb' := own_step' ho (Below.refl _ _) S.sz _ hgrow
        have S' := S.step hRw hb'
        obtain ⟨u, hu⟩ := (⟨⟨x, by omega⟩, rfl⟩ : ∃ u : Fin 16, _ = (u.val : Int))
        rw [hu, map_snoc] at hown'
        clear ho S hgrow hb' HP
        go_wp2
        go_roundw
        case rel => exact ⟨k + 1, by omega, by go_num, _, rs ++ [(u.val : Int)], by rw [List.length_append, hrl]; rfl, hrs.snoc u, (by first | (show q + 1 + 1 ≤ _; omega) | (show q + 1 ≤ _; omega)), hown', S'⟩
        case measure => simp [intOf]; omega
      · have hkn : k = n := by omega
        subst hkn
        obtain ⟨g, cap, rfl, hg1, hg2⟩ := own_form ho h1
        obtain ⟨wc, hwc⟩ : ∃ wc, wr = wc := ⟨_, rfl⟩
        rw [hwc] at ho S hg2 ⊢
        clear hwc
        have ho0 := own_keep ho (below_one wc (.cells #[.string ⟨#[114, 115, 116]⟩, .string ⟨#[115, 116]⟩, .string ⟨#[114, 116]⟩, .string ⟨#[116]⟩, .string ⟨#[115]⟩, .string ⟨#[114]⟩] 9)) (fun q hq => by cases hq; exact hg2)
        have S0 := S.step hRw ((Below.refl w.heap.size wc).alloc S.sz (.cells #[.string ⟨#[114, 115, 116]⟩, .string ⟨#[115, 116]⟩, .string ⟨#[114, 116]⟩, .string ⟨#[116]⟩, .string ⟨#[115]⟩, .string ⟨#[114]⟩] 9))
        have hwR : wc.heap.size ≠ R := by have := S.sz; omega
        have HOF := Lib.hid (of_step S0 hb hbR hl (by omega) wc.heap.size 6 six hwR (six_cells wc) (by decide) (by decide))
        clear S ho S0
        go_wp2_with fail
        refine HOF.out.mono ?_
        rintro e wd ⟨st, hst, rfl, S, hs2, hown⟩
        have ho := hown _ _ _ _ hRw ho0
        have hc := kindLeast_any (some ⟨g, 0, none⟩) cap rs st wd (by omega) (six_size st hst) (rd_own ho hrl)
        rw [hrl] at hc
        have hgd := (ho.lt g rfl).2
        clear HOF hown ho0 hst
        cases hB : leastB rs st with
        | true =>
          rw [hB] at hc
          have HC := Lib.hid hc
          clear hc hB
          go_wp2_with fail
          refine HC.out.mono ?_
          rintro e we ⟨v2, rfl, hm, hb2⟩
          rw [show (ifR true (leastL rs st)).length = k from (leastL_len rs st).trans hrl, show ifR true (leastL rs st) = leastL rs st from rfl] at hm
          have hrl2 := (leastL_len rs st).trans hrl
          obtain ⟨rs, hrs2⟩ : ∃ rs', rs' = leastL rs st := ⟨_, rfl⟩
          rw [← hrs2] at hm hrl2
          have hrl := hrl2
          have ho := own_mono hm S.sz
          have S := S.step hRw (hb2.mono S.sz)
          obtain ⟨g, cap, rfl, hg1, hg2⟩ := own_form ho h1
          clear hm hb2 HC hrs2
          go_wp2_with fail
          refine (HP.out _ _ S (by omega) 40 _ rfl (by omega) (by omega)).mono ?_
          rintro e wd ⟨z, hz, rfl, S2, hs2, hown, _⟩
          have ho2 := hown _ _ _ _ hRw ho
          clear hown S ho HP
          by_cases hz0 : z = 0
          · subst hz0
            obtain ⟨y0, hy0⟩ : ∃ y, (rs.map (Value.int .i64))[0]? = some y := ⟨_, List.getElem?_eq_getElem (by simp; omega)⟩
            have hc1 := ho2.cellAt 0 (by omega)
            have hf1 := ho2.frozenAt 0
            rw [hy0] at hc1
            clear hy0
            go_wp2
            go_ret
            have h := (ho2.stored 0 (.int .i64 (M : Int))).1
            rw [← List.map_set] at h
            exact ⟨_, rs.set 0 (M : Int), _, rfl, by rw [List.length_set]; exact hrl, h, (by first | (show q + 1 ≤ _; omega) | (show q + 1 + 1 ≤ _; omega)), S2.step hRw ((Below.refl _ _).setCell (by simp; omega) _)⟩
          · have e0 : (((z : Nat) : Int) == 0) = false := beq_eq_false_iff_ne.2 (by omega)
            go_wp2
            go_ret
            exact ⟨_, rs, _, rfl, hrl, ho2, (by first | (show q + 1 ≤ _; omega) | (show q + 1 + 1 ≤ _; omega)), S2⟩
        | false =>
          rw [hB] at hc
          have HC := Lib.hid hc
          clear hc hB
          go_wp2_with fail
          refine HC.out.mono ?_
          rintro e we ⟨v2, rfl, hm, hb2⟩
          have ho := own_keep ho hb2 (fun q hq => by cases hq; exact hgd)
          have S := S.step hRw (hb2.mono S.sz)
          clear hm hb2 HC
          go_wp2_with fail
          refine (HP.out _ _ S (by omega) 40 _ rfl (by omega) (by omega)).mono ?_
          rintro e wd ⟨z, hz, rfl, S2, hs2, hown, _⟩
          have ho2 := hown _ _ _ _ hRw ho
          clear hown S ho HP
          by_cases hz0 : z = 0
          · subst hz0
            obtain ⟨y0, hy0⟩ : ∃ y, (rs.map (Value.int .i64))[0]? = some y := ⟨_, List.getElem?_eq_getElem (by simp; omega)⟩
            have hc1 := ho2.cellAt 0 (by omega)
            have hf1 := ho2.frozenAt 0
            rw [hy0] at hc1
            clear hy0
            go_wp2
            go_ret
            have h := (ho2.stored 0 (.int .i64 (M : Int))).1
            rw [← List.map_set] at h
            exact ⟨_, rs.set 0 (M : Int), _, rfl, by rw [List.length_set]; exact hrl, h, (by first | (show q + 1 ≤ _; omega) | (show q + 1 + 1 ≤ _; omega)), S2.step hRw ((Below.refl _ _).setCell (by simp; omega) _)⟩
          · have e0 : (((z : Nat) : Int) == 0) = false := beq_eq_false_iff_ne.2 (by omega)
            go_wp2
            go_ret
            exact ⟨_, rs, _, rfl, hrl, ho2, (by first | (show q + 1 ≤ _; omega) | (show q + 1 + 1 ≤ _; omega)), S2⟩
  · go_wp2
    go_loopw [5, 7, 8] (fun v i _ wr => ∃ k : Nat, k ≤ n ∧ i = .int .i64 k ∧ DrI w wr R ao bs c p k v)
      (fun _ i _ _ => n - (intOf i).toNat)
    case atStart => exact ⟨0, Nat.zero_le _, rfl, p + 1, [], rfl, fun k => ⟨0, by simp [rowAt]⟩, by omega, ho1, S1⟩
    case round =>
      clear ho1 S1 hs1
      obtain ⟨k, hk, rfl, q, rs, hrl, hrs, hq, ho, S⟩ := hrel
      by_cases hlt : k < n
      · go_wp2_with fail
        refine (HP.out _ q S (by omega) M _ rfl (by omega) (by omega)).mono ?_
        rintro e wc ⟨x, hx, rfl, S1, hs1, hown, _⟩
        have ho1 := hown _ _ _ _ hRw ho
        clear hown S ho
        have S := S1
        have ho := ho1
        clear S1 ho1
        go_wp2_with (at_builtin; refine wpList_append_own _ rfl (.tmp 45) (.tmp 47) 22 rfl w.heap.size 3 i0 (.int .i64 0) 1 8 Try.underlying22 hi hz0 hz1 hz2 rfl (by decide) _ _ _ rfl (ho.alloc _) ⟨wc.heap.size, 0, none⟩ 1 1 [_] rfl rfl (cell_one_new _ _ _) (by simp [Value.oneCell']) (by unfold maxLen; omega) (by omega) (by have := S.sz; simp; omega) ?_)
        intro v' w2 hown' hgrow _
        have hb' := own_step' ho (Below.refl _ _) S.sz _ hgrow
        have S' := S.step hRw hb'
        obtain ⟨u, hu⟩ := (⟨⟨x, by omega⟩, rfl⟩ : ∃ u : Fin 16, _ = (u.val : Int))
        rw [hu, map_snoc] at hown'
        clear ho S hgrow hb' HP
        go_wp2
        go_roundw
        case rel => exact ⟨k + 1, by omega, by go_num, _, rs ++ [(u.val : Int)], by rw [List.length_append, hrl]; rfl, hrs.snoc u, (by first | (show q + 1 + 1 ≤ _; omega) | (show q + 1 ≤ _; omega)), hown', S'⟩
        case measure => simp [intOf]; omega
      · have hkn : k = n := by omega
        subst hkn
        obtain ⟨g, cap, rfl, hg1, hg2⟩ := own_form ho h1
        obtain ⟨wc, hwc⟩ : ∃ wc, wr = wc := ⟨_, rfl⟩
        rw [hwc] at ho S hg2 ⊢
        clear hwc
        go_wp2
        go_loopw [11] (fun i wr => ∃ (j : Nat) (zs : List Int), j ≤ k ∧ i = .int .i64 j ∧ zs.length = k ∧ In16 zs ∧ wr.ownsRow w.heap.size 3 1 (.slice (some ⟨g, 0, none⟩) k cap) k (zs.map (Value.int .i64)) ∧ DrS w wr R ao bs c q)
          (fun i _ => k - (intOf i).toNat)
        case atStart => exact ⟨0, rs, Nat.zero_le _, rfl, hrl, hrs, ho, S⟩
        case round =>
          clear ho S hrl hrs
          obtain ⟨j, zs, hj, rfl, hzl, hzs, ho, S⟩ := hrel
          by_cases hlj : j < k
          · have hc1 := ho.cellAt j (by omega)
            have hf1 := ho.frozenAt j
            have hz1' : (zs.map (Value.int .i64))[j]? = some (.int .i64 (rowAt zs j)) := by rw [List.getElem?_map, rowAt_get (by omega)]; rfl
            obtain ⟨x, hx⟩ := hzs j
            rw [hz1', hx] at hc1
            have hj1 : ((j : Nat) : Int) < (k : Int) := by omega
            have HX := Lib.hid (And.intro hzl hzs)
            clear hz1' hx hzl hzs HP
            go_wp2
            go_region
            all_goals
              obtain ⟨u, hu⟩ := shr16' x j (by omega)
              have hl2 : (zs.set j (u.val : Int)).length = k := by rw [List.length_set]; exact HX.out.1
              have hs2 := HX.out.2.set j u
              have h := (ho.stored j (.int .i64 (bits .or .i64 (wrap64 ((x.val : Int) / 2 ^ j * 2 ^ j)) (wrap64 (2 ^ j))))).1
              have hd := h.drew
              rw [hu, ← List.map_set] at hd
              have S2 := S.step hRw ((Below.refl w.heap.size wr).drew.setCell (p := ⟨g, j, none⟩) (by simp; omega) (.int .i64 (bits .or .i64 (wrap64 ((x.val : Int) / 2 ^ j * 2 ^ j)) (wrap64 (2 ^ j)))))
              rw [hu] at S2
              have HD := Lib.hid (And.intro hl2 (And.intro hs2 (And.intro hd S2)))
              clear hl2 hs2 h hd S2 ho S
              rw [hu]
              go_wp2
              go_roundw
              case rel => exact ⟨j + 1, _, by omega, by go_num, HD.out.1, HD.out.2.1, HD.out.2.2.1, HD.out.2.2.2⟩
              case measure => simp [intOf]; omega
          · have hc := l2Reach_any (some ⟨g, 0, none⟩) cap zs wr (by omega) (by omega) hzs (rd_own ho hzl)
            rw [hzl] at hc
            have HC := Lib.hid hc
            clear hc
            go_wp2_with fail
            refine HC.out.mono ?_
            rintro e we ⟨v2, rfl, hm, hb2⟩
            have hrl := (reachTo_len zs zs.length).trans hzl
            obtain ⟨rs, hrs2⟩ : ∃ rs', rs' = reachL zs := ⟨_, rfl⟩
            rw [show reachTo zs zs.length = rs from hrs2.symm] at hrl
            rw [← hrs2] at hm
            have ho := own_mono hm S.sz
            have S := S.step hRw (hb2.mono S.sz)
            obtain ⟨g, cap, rfl, hg1, hg2⟩ := own_form ho h1
            clear hm hb2 HC hrs2
            go_wp2_with fail
            refine (HP.out _ _ S (by omega) 40 _ rfl (by omega) (by omega)).mono ?_
            rintro e wd ⟨z, hz, rfl, S2, hs2, hown, _⟩
            have ho2 := hown _ _ _ _ hRw ho
            clear hown S ho HP
            by_cases hz0 : z = 0
            · subst hz0
              obtain ⟨y0, hy0⟩ : ∃ y, (rs.map (Value.int .i64))[0]? = some y := ⟨_, List.getElem?_eq_getElem (by simp; omega)⟩
              have hc1 := ho2.cellAt 0 (by omega)
              have hf1 := ho2.frozenAt 0
              rw [hy0] at hc1
              clear hy0
              go_wp2
              go_ret
              have h := (ho2.stored 0 (.int .i64 (M : Int))).1
              rw [← List.map_set] at h
              exact ⟨_, rs.set 0 (M : Int), _, rfl, by rw [List.length_set]; exact hrl, h, (by first | (show q + 1 ≤ _; omega) | (show q + 1 + 1 ≤ _; omega)), S2.step hRw ((Below.refl _ _).setCell (by simp; omega) _)⟩
            · have e0 : (((z : Nat) : Int) == 0) = false := beq_eq_false_iff_ne.2 (by omega)
              go_wp2
              go_ret
              exact ⟨_, rs, _, rfl, hrl, ho2, (by first | (show q + 1 ≤ _; omega) | (show q + 1 + 1 ≤ _; omega)), S2⟩
end Go.Proofs.Ytgmjdkhegbdbjaa
