/-
  The draw of a relation and new names: DrawRelNamed.
-/
import Derived.Test.YtebkeebgjjmdbabDF
import Derived.Test.YtebkeebgjjmdbabDI
import Derived.Deep.RegionHeldLaw
namespace Go.Proofs.Ytebkeebgjjmdbab
open Go.RowKit

theorem DrS.hereN {w wd : World} {R : Nat} {ao : Option Addr} {bs : List Nat} {c p : Nat} (S : DrS w wd R ao bs c p) : DrS wd wd R ao bs c p :=
  ⟨S.rd, Below.refl _ _, Nat.le_refl _, fun _ _ _ => rfl⟩
/-- an own row lies in blocks that another one's growth leaves -/
theorem own_nam {w w' : World} {lo n : Nat} {v : Value} {us : List Value} (h : w.ownsRow lo 3 1 v n us) (hb : ∀ k, v.ownBlock = some k → w'.heap[k]? = w.heap[k]?) : w'.ownsRow lo 3 1 v n us := by
  refine ⟨h.1, ?_⟩
  rcases h.2 with h2 | ⟨g, cap, cur, rfl, h2, h3, h4⟩
  · exact .inl h2
  · exact .inr ⟨g, cap, cur, rfl, h2, (hb g rfl).trans h3, h4⟩
/-- a list of numbers in a block of its own, from its first cell on -/
def NamAt (w : World) (g cap : Nat) (rs : List Int) : Prop := w.ownsRow g 3 1 (.slice (some ⟨g, 0, none⟩) rs.length cap) rs.length (rs.map (Value.int .i64))
theorem NamAt.same {w w' : World} {g cap : Nat} {rs : List Int} (h : NamAt w g cap rs) (hb : w'.heap[g]? = w.heap[g]?) : NamAt w' g cap rs := own_nam h fun k e => by cases e; exact hb
theorem NamAt.lt {w : World} {g cap : Nat} {rs : List Int} (h : NamAt w g cap rs) : g < w.heap.size := (World.ownsRow.lt h g rfl).2
theorem NamAt.cap {w : World} {g cap : Nat} {rs : List Int} (h : NamAt w g cap rs) : rs.length ≤ cap := by
  rcases h.2 with ⟨h2, _⟩ | ⟨g', cap', cur, h2, _, _, h4, _⟩
  · cases h2
  · cases h2; exact h4
theorem addr_nam (g k j : Nat) : (Addr.mk g k none).add j = ⟨g, k + j, none⟩ := by
  cases j with
  | zero => rfl
  | succ j => rfl
theorem NamAt.cells {w : World} {g cap : Nat} {rs : List Int} (h : NamAt w g cap rs) (k j : Nat) (u : Value) (hu : ((rs.drop k).map (Value.int .i64))[j]? = some u) : w.cell? ((Addr.mk g k none).add j) = some u := by
  have hr : Rd w (some ⟨g, 0, none⟩) rs := rd_own h rfl
  rw [List.getElem?_map, List.getElem?_drop] at hu
  obtain ⟨x, hx, rfl⟩ := Option.map_eq_some_iff.1 hu
  obtain ⟨b, off, y, hy, e, _, hc⟩ := hr.get (k + j) (by obtain ⟨h1, _⟩ := List.getElem?_eq_some_iff.1 hx; exact h1)
  cases e
  rw [hx] at hy
  cases hy
  rw [addr_nam]
  simpa using hc
theorem NamAt.cells0 {w : World} {g cap : Nat} {rs : List Int} (h : NamAt w g cap rs) (k j : Nat) (u : Value) (hu : ((rs.take k).map (Value.int .i64))[j]? = some u) : w.cell? ((Addr.mk g 0 none).add j) = some u := by
  refine NamAt.cells h 0 j u ?_
  rw [List.getElem?_map] at hu ⊢
  obtain ⟨x, hx, rfl⟩ := Option.map_eq_some_iff.1 hu
  rw [List.getElem?_take] at hx
  split at hx
  · rw [List.drop_zero, hx]; rfl
  · cases hx
theorem step_append_nam {P : Program} {ops : Array Oper} {o : Oper} {a : Act} {w : World} {K : Act → World → Prop} {Q : Exit → Act → World → Prop} {E : Prop}
    (hg : o.guard = none) (s x : Operand) (t : TypeId) (ho : o.op = Op.call { callee := Callee.builtin Builtin.append, args := #[s, x], argTypes := #[t, t] })
    (base : Nat) (e : TypeId) (i : TypeInfo) (z : Value) (size bytes : Nat) (ht : P.underlying t = some (.slice e)) (hi : P.info? e = some i) (hz : i.zero = some z)
    (hsize : i.size = size) (hby : i.bytes = bytes) (hzs : z.cells.size = size) (hsz : 0 < size)
    (v : Value) (n : Nat) (xs : List Value) (hs : a.eval s = v) (hown : w.ownsRow base e size v n xs)
    (ad : Addr) (m c : Nat) (news : List Value) (hx : a.eval x = .slice (some ad) m c) (hl : news.length = m * size) (hnews : ∀ j u, news[j]? = some u → w.cell? (ad.add j) = some u) (h1 : ∀ u ∈ news, u.oneCell' = true)
    (h63 : n + m ≤ maxLen) (hbytes : (n + m) * bytes ≤ 140737488355328) (hbase : base ≤ w.heap.size)
    (h : ∀ v' w', w'.ownsRow base e size v' (n + m) (xs ++ news) → w.grownBy w' v.ownBlock → (v' = .slice none 0 0 ↔ v = .slice none 0 0 ∧ m = 0) → K (a.put o.dst v') w') :
    if Region.wanted o (yielded ops a.tmps) = true then Oper.wp P o a w K Q else E := by
  have hw : Region.wanted o (yielded ops a.tmps) = true := by simp [Region.wanted, hg]
  rw [if_pos hw]
  exact wp_append_own w s x t ho base e i z size bytes ht hi hz hsize hby hzs hsz v n xs hs hown ad m c news hx hl hnews h1 h63 hbytes hbase h

theorem NamAt.free {w : World} {g cap : Nat} {rs : List Int} (h : NamAt w g cap rs) : w.frozen? ⟨g, 0, none⟩ = false := by
  rcases h.2 with ⟨h2, _⟩ | ⟨g', cap', cur, h2, _, h3, _⟩
  · cases h2
  · cases h2
    simp [World.frozen?, h3]
theorem nam_set {w : World} {g cap : Nat} {rs : List Int} (h : NamAt w g cap rs) (x : Int) (_h1 : 1 ≤ rs.length) : NamAt (w.setCell ⟨g, 0, none⟩ (.int .i64 x)) g cap (rs.set 0 x) := by
  have hlt := h.lt
  rcases h.2 with ⟨h2, _⟩ | ⟨g', cap', cur, h2, _, h3, h4, h5, h6, h7⟩
  · cases h2
  · cases h2
    refine ⟨by simp, .inr ⟨g, cap, cur.setIfInBounds 0 (.int .i64 x), by rw [List.length_set], Nat.le_refl _, ?_, by rw [List.length_set]; exact h4, h5, by simp; simpa using h6, ?_⟩⟩
    · have h8 : w.heap[g] = .cells cur 3 (0, 0) := (Array.getElem?_eq_some_iff.1 h3).2
      simp [World.setCell, hlt, h8, Array.getElem_modify]
    · rw [List.length_set, Array.toList_setIfInBounds, List.map_set, ← h7, List.take_set]
theorem nam_other {w : World} {lo n : Nat} {v : Value} {us : List Value} (h : w.ownsRow lo 3 1 v n us) {g : Nat} (hg : v.ownBlock ≠ some g) (u : Value) : (w.setCell ⟨g, 0, none⟩ u).ownsRow lo 3 1 v n us :=
  own_nam h fun k e => by
    have hne : k ≠ g := fun e2 => hg (by rw [e, e2])
    simp [World.setCell, Array.getElem?_modify, Ne.symm hne]
theorem nam_apart {w : World} {lo n g : Nat} {v : Value} {us : List Value} (h : w.ownsRow lo 3 1 v n us) (hg : w.heap.size ≤ g) : v.ownBlock ≠ some g := fun e => by
  have := (h.lt g e).2
  omega
theorem nam_lit (w : World) (o : Obj) (v : Value) : ((w.alloc o).alloc (.cells #[v] 3)).cell? ⟨w.heap.size + 1, 0, none⟩ = some v := by
  have h := cell_one_new (w.alloc o) v 3
  rw [World.size_alloc] at h
  exact h 0 v rfl
theorem nam_one {w : World} {b : Nat} {v : Value} (h : w.cell? ⟨b, 0, none⟩ = some v) (j : Nat) (u : Value) (hu : [v][j]? = some u) : w.cell? ((Addr.mk b 0 none).add j) = some u := by
  cases j with
  | zero => simp at hu; rw [← hu]; exact h
  | succ j => simp at hu
theorem nam_form {w : World} {lo n : Nat} {v : Value} {us : List Value} {rs' : List Int} (h : w.ownsRow lo 3 1 v n us) (hv : v ≠ .slice none 0 0) (hu : us = rs'.map (Value.int .i64)) (hn : n = rs'.length) :
    ∃ g cap, v = .slice (some ⟨g, 0, none⟩) n cap ∧ lo ≤ g ∧ NamAt w g cap rs' := by
  rcases h.2 with ⟨e, _⟩ | ⟨g, cap, cur, rfl, h2, h3, h4⟩
  · exact absurd e hv
  · subst hu hn
    exact ⟨g, cap, rfl, h2, h.1, .inr ⟨g, cap, cur, rfl, Nat.le_refl _, h3, h4⟩⟩
theorem nam_row (w : World) (o : Obj) : ((w.alloc o).alloc (.cells #[] 3)).ownsRow w.heap.size 3 1 (.slice (some ⟨w.heap.size + 1, 0, none⟩) 0 0) 0 [] := by
  have h := row_lit0 (w.alloc o)
  rw [World.size_alloc] at h
  exact own_mono h (by omega)
theorem one_nam (l : List Int) : ∀ u ∈ l.map (Value.int .i64), u.oneCell' = true := fun u hu => by
  obtain ⟨x, _, rfl⟩ := List.mem_map.1 hu
  rfl
set_option maxRecDepth 20000 in
set_option maxHeartbeats 8000000 in
theorem drawRelNamed_any (ao : Option Addr) (c : Nat) (bs : List Nat) (w : World) (hb : RdB w ao bs) (hc : bs.length ≤ c) (hbA : bs ≠ [] → ∀ a, ao = some a → a.block < w.heap.size) :
    Calls Try.prog 4 #[.slice ao bs.length c] w (Drew2 w) := by
  have HB := Lib.hid (And.intro hb hbA)
  obtain ⟨i0, hi, hz0, hz1, hz2⟩ := info_parts Try.info3
  clear hb hbA
  go_enter Try.func4, Try.ntmps4
  go_wp2_with fail
  refine (open_any ao c bs w hc).mono ?_
  rintro e w1 ⟨bs', hbs, rfl, hr, hB⟩
  have hl : bs'.length ≤ 2000 := by rw [hbs, List.length_take]; omega
  have hA : bs' ≠ [] → ∀ a, ao = some a → a.block < w.heap.size := fun h => HB.out.2 (fun e => h (by rw [hbs, e]; rfl))
  have HA := Lib.hid hA
  clear hA
  have hb1 : RdB w1 ao bs' := by rw [hbs]; exact (HB.out.1.take 2000).below hB
  have S : DrS w1 w1 w.heap.size ao bs' c 0 := ⟨hr, Below.refl _ _, Nat.le_refl _, fun _ _ _ => rfl⟩
  have HC := Lib.hid (pick_step S hb1 HA.out hl (by omega) 4 4 rfl (by omega) (by omega))
  clear hr hbs
  go_wp2_with fail
  refine HC.out.mono ?_
  rintro e w2 ⟨k, hk, rfl, S2, hss, _, _⟩
  have hb2 := hb1.keep HA.out S2.bl S2.sz
  have HD := Lib.hid (l91Rel_any S2.hereN hb2 HA.out hl (by omega) (1 + k) (1 + (k : Int)) (by omega) (by omega) (by omega))
  have hB2 : Below w.heap.size w w2 := hB.trans S2.bl
  have hRw : w.heap.size < w2.heap.size := (Array.getElem?_eq_some_iff.1 S2.rd).1
  have HS := Lib.hid (And.intro hB2 hb2)
  clear HC S S2 hb1 hb2 hB hB2 hss
  obtain ⟨n, hn⟩ : ∃ n, n = 1 + k := ⟨_, rfl⟩
  have hni : (1 + (k : Int)) = (n : Int) := by omega
  have h1 : 1 ≤ n := by omega
  have h4 : n ≤ 4 := by omega
  rw [← hn, hni] at HD
  have HNI := Lib.hid hni
  clear hn hni
  go_wp2_with fail
  rw [HNI.out]
  refine HD.out.mono ?_
  rintro e w3 ⟨va, ra, q, rfl, hal, hoa, hq, S4⟩
  have hb3 := HS.out.2.keep HA.out S4.bl S4.sz
  have hB3 := HS.out.1.trans S4.bl
  have hRw3 : w.heap.size < w3.heap.size := (Array.getElem?_eq_some_iff.1 S4.rd).1
  have HP := Lib.hid (fun (wr : World) (p : Nat) (S : DrS w3 wr w.heap.size ao bs' c p) (hp : p ≤ 1048576) => pick_step S hb3 HA.out hl hp)
  have HQ := Lib.hid (And.intro hB3 (And.intro hq (And.intro hal hoa)))
  have S5 := S4.hereN.step hRw3 (below_one w3 (.cells #[] 3))
  have o5 : NamAt (w3.alloc (.cells #[] 3)) w3.heap.size 0 [] := row_lit0 w3
  clear hb3 hB3 S4 HD hq hal hoa
  go_wp2
  go_loopw [7, 8] (fun v i wr => ∃ (m q2 g cap : Nat) (rs : List Int), m ≤ n ∧ i = .int .i64 m ∧ rs.length = m ∧ q2 ≤ q + m ∧ w3.heap.size ≤ g ∧ v = .slice (some ⟨g, 0, none⟩) rs.length cap ∧ NamAt wr g cap rs ∧ DrS w3 wr w.heap.size ao bs' c q2)
    (fun _ i _ => n - (intOf i).toNat)
  case atStart => exact ⟨0, q, w3.heap.size, 0, [], Nat.zero_le _, rfl, rfl, by omega, Nat.le_refl _, rfl, o5, S5⟩
  case round =>
    clear o5 S5
    obtain ⟨m, q2, g, cap, rs, hm, rfl, rfl, hq2, hg, rfl, hN, S⟩ := hrel
    by_cases hlt : rs.length < n
    · have hi1 : ((rs.length : Nat) : Int) < (n : Int) := by omega
      have H1 := Lib.hid (HP.out wr q2 S (by have := HQ.out.2.1; omega) (rs.length + 1) ((rs.length : Int) + 1) (by omega) (by omega) (by omega))
      have HO := Lib.hid (And.intro hN S)
      clear S hN
      go_wp2_with fail
      refine H1.out.mono ?_
      rintro e wc ⟨x, hx, rfl, S, hs2, hown, _⟩
      have hRg : w.heap.size < g := by omega
      have hN : NamAt wc g cap rs := hown _ _ _ _ hRg HO.out.1
      have hgl := hN.lt
      have hcp := hN.cap
      have hx0 : (x : Int) ≤ (cap : Int) := by omega
      have hx1 : (x : Int) ≤ (rs.length : Int) := by omega
      have hx2 : (0 : Int) ≤ (x : Int) := by omega
      have HN := Lib.hid (And.intro hN S)
      clear hown hN S H1 HO hs2
      have HSZ := Lib.hid (show w3.heap.size ≤ wc.drew.heap.size from HN.out.2.sz)
      have HB1 := Lib.hid (fun o : Obj => (Below.heap_alloc wc.drew o g hgl : (wc.drew.alloc o).heap[g]? = wc.heap[g]?))
      have HL1 := Lib.hid (show ((rs.take x).map (Value.int .i64)).length = x * 1 by simp; omega)
      have HL3 := Lib.hid (show ((rs.drop x).map (Value.int .i64)).length = (rs.length - x) * 1 by simp)
      have hs0 : wc.drew.heap.size = wc.heap.size := rfl
      by_cases hcx : cap = x
      · have hxl : rs.length = x := by omega
        have HXL := Lib.hid hxl
        clear hxl
        have HNO := Lib.hid (show ∀ j u, ((rs.drop x).map (Value.int .i64))[j]? = some u → wc.cell? ((Addr.mk g 0 none).add j) = some u by rw [List.drop_eq_nil_of_le (by have := HXL.out; omega)]; intro j u h; simp at h)
        go_wp2
        go_region_held_law (fun _ => True) (trivial) (first
          | (refine step_append_nam rfl (.tmp 29) (.tmp 32) 23 rfl wc.drew.heap.size 3 i0 (.int .i64 0) 1 8 Try.underlying23 hi hz0 hz1 hz2 rfl (by decide) _ _ _ rfl (row_lit0 wc.drew) ⟨g, 0, none⟩ x _ ((rs.take x).map (Value.int .i64)) rfl HL1.out (NamAt.cells0 (HN.out.1.same (HB1.out _)) x) (one_nam _) (by unfold maxLen; omega) (by omega) (by simp <;> omega) ?_; rintro v1 wa o1 g1 n1; replace g1 : World.grownBy _ wa (some (wc.drew.heap.size)) := g1; replace n1 : v1 = .slice none 0 0 ↔ (Value.slice (some ⟨wc.drew.heap.size, 0, none⟩) 0 0 = .slice none 0 0 ∧ x = 0) := n1; have k1 : wa.heap[g]? = wc.heap[g]? := (g1.block g (by simp <;> omega) (by simp <;> omega)).trans (HB1.out _); have hb1 : Below w3.heap.size wc wa := ((Below.refl w3.heap.size wc).drew.alloc HSZ.out (.cells #[] 3)).grown g1 (Nat.le_trans HSZ.out (by simp <;> omega)) (fun k hk => by cases hk; exact HSZ.out); have m1 : v1 ≠ .slice none 0 0 := (fun e => by cases (n1.1 e).1); have HW1 := Lib.hid (And.intro k1 (And.intro hb1 (And.intro m1 hb1.size))); clear k1 hb1 m1 n1)
          | (refine step_append_nam rfl (.tmp 33) (.tmp 35) 23 rfl wc.drew.heap.size 3 i0 (.int .i64 0) 1 8 Try.underlying23 hi hz0 hz1 hz2 rfl (by decide) v1 _ _ rfl (o1.alloc _) ⟨wa.heap.size, 0, none⟩ 1 1 [_] rfl rfl (cell_one_new _ _ _) (by simp [Value.oneCell']) (by unfold maxLen; omega) (by omega) (by have := HW1.out.2.2.2; simp <;> omega) ?_; rintro v2 wb o2 g2 n2; have k2 : wb.heap[g]? = wc.heap[g]? := (g2.block g (by have := HW1.out.2.2.2; simp <;> omega) (fun e => by have := (o1.lt g e.symm).1; simp at this; omega)).trans ((Below.heap_alloc wa _ g (Nat.lt_of_lt_of_le hgl HW1.out.2.2.2)).trans HW1.out.1); have hb2 : Below w3.heap.size wc wb := (HW1.out.2.1.alloc (Nat.le_trans HN.out.2.sz HW1.out.2.2.2) (.cells #[.int .i64 rs.length] 3)).grown g2 (by have := HN.out.2.sz; have := HW1.out.2.2.2; simp <;> omega) (fun k hk => Nat.le_trans HSZ.out (o1.lt k hk).1); have m2 : v2 ≠ .slice none 0 0 := (fun e => HW1.out.2.2.1 (n2.1 e).1); have HW2 := Lib.hid (And.intro k2 (And.intro hb2 (And.intro m2 hb2.size))); clear k2 hb2 m2 n2)
          | (refine step_append_nam rfl (.tmp 29) (.tmp 32) 23 rfl wc.drew.heap.size 3 i0 (.int .i64 0) 1 8 Try.underlying23 hi hz0 hz1 hz2 rfl (by decide) _ _ _ rfl ((row_lit0 wc.drew).alloc _) ⟨g, 0, none⟩ x _ ((rs.take x).map (Value.int .i64)) rfl HL1.out (NamAt.cells0 (HN.out.1.same ((Below.heap_alloc (wc.drew.alloc (.cells #[] 3)) _ g (by simp <;> omega)).trans (HB1.out _))) x) (one_nam _) (by unfold maxLen; omega) (by omega) (by simp <;> omega) ?_; rintro v1 wa o1 g1 n1; replace g1 : World.grownBy _ wa (some (wc.drew.heap.size)) := g1; replace n1 : v1 = .slice none 0 0 ↔ (Value.slice (some ⟨wc.drew.heap.size, 0, none⟩) 0 0 = .slice none 0 0 ∧ x = 0) := n1; have k1 : wa.heap[g]? = wc.heap[g]? := (g1.block g (by simp <;> omega) (by simp <;> omega)).trans ((Below.heap_alloc (wc.drew.alloc (.cells #[] 3)) _ g (by simp <;> omega)).trans (HB1.out _)); have hb1 : Below w3.heap.size wc wa := (((Below.refl w3.heap.size wc).drew.alloc HSZ.out (.cells #[] 3)).alloc (Nat.le_trans HSZ.out (by simp <;> omega)) (.cells #[.int .i64 rs.length] 3)).grown g1 (Nat.le_trans HSZ.out (by simp <;> omega)) (fun k hk => by cases hk; exact HSZ.out); have m1 : v1 ≠ .slice none 0 0 := (fun e => by cases (n1.1 e).1); have HW1 := Lib.hid (And.intro k1 (And.intro hb1 (And.intro m1 hb1.size))); have hlit : wa.cell? ⟨wc.drew.heap.size + 1, 0, none⟩ = some (.int .i64 rs.length) := g1.cell (nam_lit wc.drew _ (.int .i64 rs.length)) (by simp); have HLB := Lib.hid hlit; clear hlit; clear k1 hb1 m1 n1)
          | (refine step_append_nam rfl (.tmp 33) (.tmp 35) 23 rfl wc.drew.heap.size 3 i0 (.int .i64 0) 1 8 Try.underlying23 hi hz0 hz1 hz2 rfl (by decide) v1 _ _ rfl (o1) ⟨wc.drew.heap.size + 1, 0, none⟩ 1 1 [_] rfl rfl (fun j u hu => nam_one HLB.out j u hu) (by simp [Value.oneCell']) (by unfold maxLen; omega) (by omega) (HW1.out.2.2.2) ?_; rintro v2 wb o2 g2 n2; have k2 : wb.heap[g]? = wc.heap[g]? := (g2.block g (Nat.lt_of_lt_of_le hgl HW1.out.2.2.2) (fun e => by have := (o1.lt g e.symm).1; simp at this; omega)).trans HW1.out.1; have hb2 : Below w3.heap.size wc wb := (HW1.out.2.1).grown g2 (Nat.le_trans HN.out.2.sz HW1.out.2.2.2) (fun k hk => Nat.le_trans HSZ.out (o1.lt k hk).1); have m2 : v2 ≠ .slice none 0 0 := (fun e => HW1.out.2.2.1 (n2.1 e).1); have HW2 := Lib.hid (And.intro k2 (And.intro hb2 (And.intro m2 hb2.size))); clear k2 hb2 m2 n2)
          | (refine step_append_nam rfl (.tmp 29) (.tmp 32) 23 rfl wc.drew.heap.size 3 i0 (.int .i64 0) 1 8 Try.underlying23 hi hz0 hz1 hz2 rfl (by decide) _ _ _ rfl (nam_row wc.drew (.cells #[.int .i64 rs.length] 3)) ⟨g, 0, none⟩ x _ ((rs.take x).map (Value.int .i64)) rfl HL1.out (NamAt.cells0 (HN.out.1.same ((Below.heap_alloc (wc.drew.alloc (.cells #[.int .i64 rs.length] 3)) _ g (by simp <;> omega)).trans (HB1.out _))) x) (one_nam _) (by unfold maxLen; omega) (by omega) (by simp <;> omega) ?_; rintro v1 wa o1 g1 n1; replace g1 : World.grownBy _ wa (some (wc.drew.heap.size + 1)) := g1; replace n1 : v1 = .slice none 0 0 ↔ (Value.slice (some ⟨wc.drew.heap.size + 1, 0, none⟩) 0 0 = .slice none 0 0 ∧ x = 0) := n1; have k1 : wa.heap[g]? = wc.heap[g]? := (g1.block g (by simp <;> omega) (by simp <;> omega)).trans ((Below.heap_alloc (wc.drew.alloc (.cells #[.int .i64 rs.length] 3)) _ g (by simp <;> omega)).trans (HB1.out _)); have hb1 : Below w3.heap.size wc wa := (((Below.refl w3.heap.size wc).drew.alloc HSZ.out (.cells #[.int .i64 rs.length] 3)).alloc (Nat.le_trans HSZ.out (by simp <;> omega)) (.cells #[] 3)).grown g1 (Nat.le_trans HSZ.out (by simp <;> omega)) (fun k hk => by cases hk; exact (Nat.le_trans HSZ.out (by simp <;> omega))); have m1 : v1 ≠ .slice none 0 0 := (fun e => by cases (n1.1 e).1); have HW1 := Lib.hid (And.intro k1 (And.intro hb1 (And.intro m1 hb1.size))); have hlit : wa.cell? ⟨wc.drew.heap.size, 0, none⟩ = some (.int .i64 rs.length) := g1.cell ((World.cell?_of_block (Below.heap_alloc (wc.drew.alloc (.cells #[.int .i64 rs.length] 3)) _ wc.drew.heap.size (by simp))).trans (cell_one_new wc.drew (.int .i64 rs.length) 3 0 _ rfl)) (by simp); have HLC := Lib.hid hlit; clear hlit; clear k1 hb1 m1 n1)
          | (refine step_append_nam rfl (.tmp 33) (.tmp 35) 23 rfl wc.drew.heap.size 3 i0 (.int .i64 0) 1 8 Try.underlying23 hi hz0 hz1 hz2 rfl (by decide) v1 _ _ rfl (o1) ⟨wc.drew.heap.size, 0, none⟩ 1 1 [_] rfl rfl (fun j u hu => nam_one HLC.out j u hu) (by simp [Value.oneCell']) (by unfold maxLen; omega) (by omega) (HW1.out.2.2.2) ?_; rintro v2 wb o2 g2 n2; have k2 : wb.heap[g]? = wc.heap[g]? := (g2.block g (Nat.lt_of_lt_of_le hgl HW1.out.2.2.2) (fun e => by have := (o1.lt g e.symm).1; simp at this; omega)).trans HW1.out.1; have hb2 : Below w3.heap.size wc wb := (HW1.out.2.1).grown g2 (Nat.le_trans HN.out.2.sz HW1.out.2.2.2) (fun k hk => Nat.le_trans HSZ.out (o1.lt k hk).1); have m2 : v2 ≠ .slice none 0 0 := (fun e => HW1.out.2.2.1 (n2.1 e).1); have HW2 := Lib.hid (And.intro k2 (And.intro hb2 (And.intro m2 hb2.size))); clear k2 hb2 m2 n2)
          | (refine step_append_nam rfl (.tmp 36) (.tmp 39) 23 rfl wc.drew.heap.size 3 i0 (.int .i64 0) 1 8 Try.underlying23 hi hz0 hz1 hz2 rfl (by decide) v2 _ _ rfl o2 ⟨g, 0, none⟩ (rs.length - x) _ ((rs.drop x).map (Value.int .i64)) rfl HL3.out (fun j u hu => absurd hu (by rw [List.drop_eq_nil_of_le (by have := HXL.out; omega)]; simp)) (one_nam _) (by unfold maxLen; omega) (by omega) HW2.out.2.2.2 ?_; rintro v3 wd o3 g3 n3; have hb3 : Below w3.heap.size wc wd := (HW2.out.2.1).grown g3 (Nat.le_trans HN.out.2.sz HW2.out.2.2.2) (fun k hk => Nat.le_trans HSZ.out (o2.lt k hk).1); have m3 : v3 ≠ .slice none 0 0 := (fun e => HW2.out.2.2.1 (n3.1 e).1); have HW3 := Lib.hid (And.intro o3 (And.intro hb3 m3)); clear o3 hb3 m3 n3 g3 o2 g2 o1 g1))
        all_goals
          obtain ⟨g', cap', rfl, hg', hN'⟩ := nam_form HW3.out.1 HW3.out.2.2 (rs' := (rs.take x ++ [(rs.length : Int)]) ++ rs.drop x) (by simp) (by simp <;> omega)
          have S' := HN.out.2.step hRw3 HW3.out.2.1
          have HF := Lib.hid (And.intro hg' (And.intro hN' S'))
          clear hg' hN' S' HW1 HW2 HW3 HL1 HL3 HB1
          go_wp2
          go_roundw
          case rel => exact ⟨rs.length + 1, q2 + 1, g', cap', (rs.take x ++ [(rs.length : Int)]) ++ rs.drop x, by omega, by go_num, by simp; omega, by omega, Nat.le_trans HSZ.out HF.out.1, by simp; omega, HF.out.2.1, HF.out.2.2⟩
          case measure => simp [intOf]; omega
      · go_wp2
        go_region_held_law (fun _ => True) (trivial) (first
          | (refine step_append_nam rfl (.tmp 29) (.tmp 32) 23 rfl wc.drew.heap.size 3 i0 (.int .i64 0) 1 8 Try.underlying23 hi hz0 hz1 hz2 rfl (by decide) _ _ _ rfl (row_lit0 wc.drew) ⟨g, 0, none⟩ x _ ((rs.take x).map (Value.int .i64)) rfl HL1.out (NamAt.cells0 (HN.out.1.same (HB1.out _)) x) (one_nam _) (by unfold maxLen; omega) (by omega) (by simp <;> omega) ?_; rintro v1 wa o1 g1 n1; replace g1 : World.grownBy _ wa (some (wc.drew.heap.size)) := g1; replace n1 : v1 = .slice none 0 0 ↔ (Value.slice (some ⟨wc.drew.heap.size, 0, none⟩) 0 0 = .slice none 0 0 ∧ x = 0) := n1; have k1 : wa.heap[g]? = wc.heap[g]? := (g1.block g (by simp <;> omega) (by simp <;> omega)).trans (HB1.out _); have hb1 : Below w3.heap.size wc wa := ((Below.refl w3.heap.size wc).drew.alloc HSZ.out (.cells #[] 3)).grown g1 (Nat.le_trans HSZ.out (by simp <;> omega)) (fun k hk => by cases hk; exact HSZ.out); have m1 : v1 ≠ .slice none 0 0 := (fun e => by cases (n1.1 e).1); have HW1 := Lib.hid (And.intro k1 (And.intro hb1 (And.intro m1 hb1.size))); clear k1 hb1 m1 n1)
          | (refine step_append_nam rfl (.tmp 33) (.tmp 35) 23 rfl wc.drew.heap.size 3 i0 (.int .i64 0) 1 8 Try.underlying23 hi hz0 hz1 hz2 rfl (by decide) v1 _ _ rfl (o1.alloc _) ⟨wa.heap.size, 0, none⟩ 1 1 [_] rfl rfl (cell_one_new _ _ _) (by simp [Value.oneCell']) (by unfold maxLen; omega) (by omega) (by have := HW1.out.2.2.2; simp <;> omega) ?_; rintro v2 wb o2 g2 n2; have k2 : wb.heap[g]? = wc.heap[g]? := (g2.block g (by have := HW1.out.2.2.2; simp <;> omega) (fun e => by have := (o1.lt g e.symm).1; simp at this; omega)).trans ((Below.heap_alloc wa _ g (Nat.lt_of_lt_of_le hgl HW1.out.2.2.2)).trans HW1.out.1); have hb2 : Below w3.heap.size wc wb := (HW1.out.2.1.alloc (Nat.le_trans HN.out.2.sz HW1.out.2.2.2) (.cells #[.int .i64 rs.length] 3)).grown g2 (by have := HN.out.2.sz; have := HW1.out.2.2.2; simp <;> omega) (fun k hk => Nat.le_trans HSZ.out (o1.lt k hk).1); have m2 : v2 ≠ .slice none 0 0 := (fun e => HW1.out.2.2.1 (n2.1 e).1); have HW2 := Lib.hid (And.intro k2 (And.intro hb2 (And.intro m2 hb2.size))); clear k2 hb2 m2 n2)
          | (refine step_append_nam rfl (.tmp 29) (.tmp 32) 23 rfl wc.drew.heap.size 3 i0 (.int .i64 0) 1 8 Try.underlying23 hi hz0 hz1 hz2 rfl (by decide) _ _ _ rfl ((row_lit0 wc.drew).alloc _) ⟨g, 0, none⟩ x _ ((rs.take x).map (Value.int .i64)) rfl HL1.out (NamAt.cells0 (HN.out.1.same ((Below.heap_alloc (wc.drew.alloc (.cells #[] 3)) _ g (by simp <;> omega)).trans (HB1.out _))) x) (one_nam _) (by unfold maxLen; omega) (by omega) (by simp <;> omega) ?_; rintro v1 wa o1 g1 n1; replace g1 : World.grownBy _ wa (some (wc.drew.heap.size)) := g1; replace n1 : v1 = .slice none 0 0 ↔ (Value.slice (some ⟨wc.drew.heap.size, 0, none⟩) 0 0 = .slice none 0 0 ∧ x = 0) := n1; have k1 : wa.heap[g]? = wc.heap[g]? := (g1.block g (by simp <;> omega) (by simp <;> omega)).trans ((Below.heap_alloc (wc.drew.alloc (.cells #[] 3)) _ g (by simp <;> omega)).trans (HB1.out _)); have hb1 : Below w3.heap.size wc wa := (((Below.refl w3.heap.size wc).drew.alloc HSZ.out (.cells #[] 3)).alloc (Nat.le_trans HSZ.out (by simp <;> omega)) (.cells #[.int .i64 rs.length] 3)).grown g1 (Nat.le_trans HSZ.out (by simp <;> omega)) (fun k hk => by cases hk; exact HSZ.out); have m1 : v1 ≠ .slice none 0 0 := (fun e => by cases (n1.1 e).1); have HW1 := Lib.hid (And.intro k1 (And.intro hb1 (And.intro m1 hb1.size))); have hlit : wa.cell? ⟨wc.drew.heap.size + 1, 0, none⟩ = some (.int .i64 rs.length) := g1.cell (nam_lit wc.drew _ (.int .i64 rs.length)) (by simp); have HLB := Lib.hid hlit; clear hlit; clear k1 hb1 m1 n1)
          | (refine step_append_nam rfl (.tmp 33) (.tmp 35) 23 rfl wc.drew.heap.size 3 i0 (.int .i64 0) 1 8 Try.underlying23 hi hz0 hz1 hz2 rfl (by decide) v1 _ _ rfl (o1) ⟨wc.drew.heap.size + 1, 0, none⟩ 1 1 [_] rfl rfl (fun j u hu => nam_one HLB.out j u hu) (by simp [Value.oneCell']) (by unfold maxLen; omega) (by omega) (HW1.out.2.2.2) ?_; rintro v2 wb o2 g2 n2; have k2 : wb.heap[g]? = wc.heap[g]? := (g2.block g (Nat.lt_of_lt_of_le hgl HW1.out.2.2.2) (fun e => by have := (o1.lt g e.symm).1; simp at this; omega)).trans HW1.out.1; have hb2 : Below w3.heap.size wc wb := (HW1.out.2.1).grown g2 (Nat.le_trans HN.out.2.sz HW1.out.2.2.2) (fun k hk => Nat.le_trans HSZ.out (o1.lt k hk).1); have m2 : v2 ≠ .slice none 0 0 := (fun e => HW1.out.2.2.1 (n2.1 e).1); have HW2 := Lib.hid (And.intro k2 (And.intro hb2 (And.intro m2 hb2.size))); clear k2 hb2 m2 n2)
          | (refine step_append_nam rfl (.tmp 29) (.tmp 32) 23 rfl wc.drew.heap.size 3 i0 (.int .i64 0) 1 8 Try.underlying23 hi hz0 hz1 hz2 rfl (by decide) _ _ _ rfl (nam_row wc.drew (.cells #[.int .i64 rs.length] 3)) ⟨g, 0, none⟩ x _ ((rs.take x).map (Value.int .i64)) rfl HL1.out (NamAt.cells0 (HN.out.1.same ((Below.heap_alloc (wc.drew.alloc (.cells #[.int .i64 rs.length] 3)) _ g (by simp <;> omega)).trans (HB1.out _))) x) (one_nam _) (by unfold maxLen; omega) (by omega) (by simp <;> omega) ?_; rintro v1 wa o1 g1 n1; replace g1 : World.grownBy _ wa (some (wc.drew.heap.size + 1)) := g1; replace n1 : v1 = .slice none 0 0 ↔ (Value.slice (some ⟨wc.drew.heap.size + 1, 0, none⟩) 0 0 = .slice none 0 0 ∧ x = 0) := n1; have k1 : wa.heap[g]? = wc.heap[g]? := (g1.block g (by simp <;> omega) (by simp <;> omega)).trans ((Below.heap_alloc (wc.drew.alloc (.cells #[.int .i64 rs.length] 3)) _ g (by simp <;> omega)).trans (HB1.out _)); have hb1 : Below w3.heap.size wc wa := (((Below.refl w3.heap.size wc).drew.alloc HSZ.out (.cells #[.int .i64 rs.length] 3)).alloc (Nat.le_trans HSZ.out (by simp <;> omega)) (.cells #[] 3)).grown g1 (Nat.le_trans HSZ.out (by simp <;> omega)) (fun k hk => by cases hk; exact (Nat.le_trans HSZ.out (by simp <;> omega))); have m1 : v1 ≠ .slice none 0 0 := (fun e => by cases (n1.1 e).1); have HW1 := Lib.hid (And.intro k1 (And.intro hb1 (And.intro m1 hb1.size))); have hlit : wa.cell? ⟨wc.drew.heap.size, 0, none⟩ = some (.int .i64 rs.length) := g1.cell ((World.cell?_of_block (Below.heap_alloc (wc.drew.alloc (.cells #[.int .i64 rs.length] 3)) _ wc.drew.heap.size (by simp))).trans (cell_one_new wc.drew (.int .i64 rs.length) 3 0 _ rfl)) (by simp); have HLC := Lib.hid hlit; clear hlit; clear k1 hb1 m1 n1)
          | (refine step_append_nam rfl (.tmp 33) (.tmp 35) 23 rfl wc.drew.heap.size 3 i0 (.int .i64 0) 1 8 Try.underlying23 hi hz0 hz1 hz2 rfl (by decide) v1 _ _ rfl (o1) ⟨wc.drew.heap.size, 0, none⟩ 1 1 [_] rfl rfl (fun j u hu => nam_one HLC.out j u hu) (by simp [Value.oneCell']) (by unfold maxLen; omega) (by omega) (HW1.out.2.2.2) ?_; rintro v2 wb o2 g2 n2; have k2 : wb.heap[g]? = wc.heap[g]? := (g2.block g (Nat.lt_of_lt_of_le hgl HW1.out.2.2.2) (fun e => by have := (o1.lt g e.symm).1; simp at this; omega)).trans HW1.out.1; have hb2 : Below w3.heap.size wc wb := (HW1.out.2.1).grown g2 (Nat.le_trans HN.out.2.sz HW1.out.2.2.2) (fun k hk => Nat.le_trans HSZ.out (o1.lt k hk).1); have m2 : v2 ≠ .slice none 0 0 := (fun e => HW1.out.2.2.1 (n2.1 e).1); have HW2 := Lib.hid (And.intro k2 (And.intro hb2 (And.intro m2 hb2.size))); clear k2 hb2 m2 n2)
          | (refine step_append_nam rfl (.tmp 36) (.tmp 39) 23 rfl wc.drew.heap.size 3 i0 (.int .i64 0) 1 8 Try.underlying23 hi hz0 hz1 hz2 rfl (by decide) v2 _ _ rfl o2 ⟨g, x, none⟩ (rs.length - x) _ ((rs.drop x).map (Value.int .i64)) rfl HL3.out (NamAt.cells (HN.out.1.same HW2.out.1) x) (one_nam _) (by unfold maxLen; omega) (by omega) HW2.out.2.2.2 ?_; rintro v3 wd o3 g3 n3; have hb3 : Below w3.heap.size wc wd := (HW2.out.2.1).grown g3 (Nat.le_trans HN.out.2.sz HW2.out.2.2.2) (fun k hk => Nat.le_trans HSZ.out (o2.lt k hk).1); have m3 : v3 ≠ .slice none 0 0 := (fun e => HW2.out.2.2.1 (n3.1 e).1); have HW3 := Lib.hid (And.intro o3 (And.intro hb3 m3)); clear o3 hb3 m3 n3 g3 o2 g2 o1 g1))
        all_goals
          obtain ⟨g', cap', rfl, hg', hN'⟩ := nam_form HW3.out.1 HW3.out.2.2 (rs' := (rs.take x ++ [(rs.length : Int)]) ++ rs.drop x) (by simp) (by simp <;> omega)
          have S' := HN.out.2.step hRw3 HW3.out.2.1
          have HF := Lib.hid (And.intro hg' (And.intro hN' S'))
          clear hg' hN' S' HW1 HW2 HW3 HL1 HL3 HB1
          go_wp2
          go_roundw
          case rel => exact ⟨rs.length + 1, q2 + 1, g', cap', (rs.take x ++ [(rs.length : Int)]) ++ rs.drop x, by omega, by go_num, by simp; omega, by omega, Nat.le_trans HSZ.out HF.out.1, by simp; omega, HF.out.2.1, HF.out.2.2⟩
          case measure => simp [intOf]; omega
    · have hrn : rs.length = n := by omega
      have H1 := Lib.hid (HP.out wr q2 S (by have := HQ.out.2.1; omega) 24 24 rfl (by omega) (by omega))
      have HO := Lib.hid (And.intro hN S)
      have hRg : w.heap.size < g := by omega
      have h0l : (0 : Int) < (rs.length : Int) := by omega
      have HRN := Lib.hid hrn
      clear S hN hrn
      go_wp2_with fail
      refine H1.out.mono ?_
      rintro e wc ⟨z, hz, rfl, S, hs2, hown, _⟩
      have hN : NamAt wc g cap rs := hown _ _ _ _ hRg HO.out.1
      have hoa : wc.ownsRow w.heap.size 3 1 va ra.length (ra.map (Value.int .i64)) := by
        have h := own_oth HQ.out.2.2.2 hRw (fun b hb hne => S.oth b hb hne)
        rw [HQ.out.2.2.1]
        exact own_mono h HS.out.1.size
      have hB9 := HQ.out.1.trans S.bl
      have h08 : rs.length ≤ 5 ∧ ra.length ≤ 5 := by have := HQ.out.2.2.1; omega
      by_cases hz0' : z = 0
      · subst hz0'
        have hc0 : wc.cell? ⟨g, 0, none⟩ = some (.int .i64 (rs.getD 0 0)) := by
          refine (NamAt.cells hN 0 0 (.int .i64 (rs.getD 0 0)) ?_)
          rw [List.drop_zero, List.getElem?_map, List.getElem?_eq_getElem (by omega), List.getD_eq_getElem?_getD, List.getElem?_eq_getElem (by omega)]
          rfl
        have hf0 := hN.free
        have hset := nam_set hN (n : Int) (by omega)
        have HF := Lib.hid (And.intro hset (And.intro hoa (And.intro hB9 (And.intro h08 (And.intro hRg HO.out.1)))))
        clear hset hoa hB9 h08 hN S hown H1 HO hs2
        go_wp2
        go_ret2
        have hsz : w.heap.size ≤ g := by have := HF.out.2.2.2.2.1; omega
        exact ⟨va, _, ra, rs.set 0 (n : Int), rfl, HF.out.2.2.2.1.2, by rw [List.length_set]; exact HF.out.2.2.2.1.1, nam_other HF.out.2.1 (nam_apart HQ.out.2.2.2 hg) _, by rw [List.length_set]; exact own_mono (by have := HF.out.1; unfold NamAt at this; rwa [List.length_set] at this) hsz, HF.out.2.2.1.setCell (p := ⟨g, 0, none⟩) hsz _⟩
      · have e0 : (((z : Nat) : Int) == 0) = false := beq_eq_false_iff_ne.2 (by omega)
        have HF := Lib.hid (And.intro hN (And.intro hoa (And.intro hB9 (And.intro h08 hRg))))
        clear hoa hB9 h08 hN S hown H1 HO hs2
        go_wp2
        go_ret2
        exact ⟨va, _, ra, rs, rfl, HF.out.2.2.2.1.2, HF.out.2.2.2.1.1, HF.out.2.1, own_mono HF.out.1 (by have := HF.out.2.2.2.2; omega), HF.out.2.2.1⟩
end Go.Proofs.Ytebkeebgjjmdbab
