/-
  Words of a walk at the grain of the machine: moves of control, operations that touch nothing.
-/
import Derived.Test.YtgmjdkhegbdbjaaBXF
import Derived.Conc.WgGenN3
import Derived.Conc.CompanyMem
namespace Go.Ph
open Go Go.Conc Go.ConcN
open Go.ConcR (KK wgBlock WgAt stA smA rd wr mk Payload Aside2 DC0 Bk g_of_ofEvents bk_of_mute ofEvent_loc_mark loc_of_ofEvent ofEvent_cell ofEvent_mk)
open Go.Br (ShunOf)
set_option linter.unusedVariables false
set_option linter.unusedSimpArgs false
set_option linter.unusedSectionVars false

theorem heard_close {t : Trace} {g : Nat} {fn : FuncId} {pos : String} {c : Nat} (hd : Deaf t g = 0) {i : Nat} (h1 : t.size ≤ i) (h2 : i < (t ++ MemOp.ofEvents g fn pos #[⟨.obj c, false, true⟩, ⟨.obj c, true, true⟩]).size) :
    (t ++ MemOp.ofEvents g fn pos #[⟨.obj c, false, true⟩, ⟨.obj c, true, true⟩]).heard i := by
  have e : MemOp.ofEvents g fn pos #[⟨.obj c, false, true⟩, ⟨.obj c, true, true⟩] = #[{ g := g, fn := fn, pos := pos, act := .access ⟨.obj c, false, true⟩ }, { g := g, fn := fn, pos := pos, act := .close c }] := by
    simp [MemOp.ofEvents, MemAct.ofEvent]
  rw [e] at h2 ⊢
  have h2' : i = t.size ∨ i = t.size + 1 := by simp at h2; omega
  rcases h2' with rfl | rfl
  · exact ⟨g, by simp [Trace.g?], by rw [deaf_old (Nat.le_refl _)]; exact hd⟩
  · refine ⟨g, by simp [Trace.g?], ?_⟩
    have e2 : t ++ #[({ g := g, fn := fn, pos := pos, act := .access ⟨.obj c, false, true⟩ } : MemOp), { g := g, fn := fn, pos := pos, act := .close c }] = (t ++ #[({ g := g, fn := fn, pos := pos, act := .access ⟨.obj c, false, true⟩ } : MemOp)]) ++ #[{ g := g, fn := fn, pos := pos, act := .close c }] := by rw [Array.append_assoc]; rfl
    rw [e2, deaf_old (by simp)]
    have := Deaf_push t { g := g, fn := fn, pos := pos, act := .access ⟨.obj c, false, true⟩ } g
    unfold Deaf at this
    rw [show t.size + 1 = (t ++ #[({ g := g, fn := fn, pos := pos, act := .access ⟨.obj c, false, true⟩ } : MemOp)]).size by simp, this]
    unfold Deaf at hd
    rw [hd]
    simp [deafStep]

section
variable {P : Program} {ty : TypeId} {Wg : Nat} {rel : TypeId} [Payload] {Sh : Nat → Bool} {z : Value} {Fin An : Goroutine → World → Prop} {V : Nat → List Value} {n W m0 : Nat}
  {ks : List Kid} {gs : Array Goroutine} {w w' : World} {sl : Option (Nat × Nat)} {t : Trace} {X X' : Nat → WX} {D D' : Nat → WD} {q : Nat → Nat} {tag tag' : Tg} {f0 d0 : Nat} {a : Goroutine}

theorem offers_caller (hAr : ∀ g w, An g w → g.status = .running) (hcs : CS P ty Wg rel Sh z Fin An V ks tag f0 d0 a w) (c : Nat) : offersAt a c true = [] ∧ ((∀ l ls, tag ≠ .rp ((c, l) :: ls)) → offersAt a c false = []) := by
  rcases hcs.status hAr with ⟨hs, _⟩ | ⟨hs, hsl⟩
  · have hb : a.status ≠ .blocked := by rw [hs]; simp
    exact ⟨offersAt_of_not_blocked hb _ _, fun _ => offersAt_of_not_blocked hb _ _⟩
  · cases hcs with
    | rp hb =>
      rename_i c' l ls g0
      refine ⟨offersAt_parked_recv' _ _ _ _ _, fun hne => ?_⟩
      rw [offersAt_parked_recv]
      split
      · rename_i e; subst e; exact absurd rfl (hne l ls)
      · rfl
    | blk hb =>
      rename_i g0
      have ho := (hb w (RC.refl w)).2.1
      unfold offersAt
      simp only [ho]
      exact ⟨trivial, fun _ => trivial⟩
    | _ => exact hsl.elim

theorem aside_setChan (w : World) (c cap s r : Nat) (buf : Array Value) (cl tm : Bool) : Aside c w (w.setChan c cap buf cl s r tm) := Aside.put c w _
theorem setChan_at {w : World} {c s r s' r' : Nat} {buf buf' : Array Value} {cl cl' tm tm' : Bool} {cap cap' : Nat} (h : w.heap[c]? = some (.chan cap buf cl s r tm)) : (w.setChan c cap' buf' cl' s' r' tm').heap[c]? = some (.chan cap' buf' cl' s' r' tm') := heap_put h

theorem rr_chan {c : Nat} (hlo : Wg < c) (hA : Aside c w w') (hc : IsChan w c) (hc' : IsChan w' c) : RR ty Wg w w' := by
  refine ⟨⟨hA.tape, hA.os, hA.output⟩, Nat.le_of_eq hA.size.symm, fun b hb hn _ => hA.block b (fun e => hn.elim (fun h => by omega) fun h => h (e ▸ hc)), fun b hb => ?_, fun ⟨st, sm, hl⟩ => ⟨st, sm, hl.of_block (hA.block Wg ?_)⟩⟩
  · by_cases e : b = c
    · subst e; exact hc'
    · exact hb.of (hA.block b e)
  · rintro rfl
    obtain ⟨_, _, _, _, _, _, h⟩ := hc
    have hl : w.heap[Wg]? = some (wgBlock ty st sm) := hl
    rw [hl] at h; cases h

theorem wg_of_aside {c st sm : Nat} (hA : Aside c w w') (hc : IsChan w c) (hl : WgLive ty Wg w) : w'.heap[Wg]? = w.heap[Wg]? := hA.block Wg (by
  rintro rfl
  obtain ⟨_, _, _, _, _, _, h⟩ := hc
  obtain ⟨st, sm, hl⟩ := hl
  have hl : w.heap[Wg]? = some (wgBlock ty st sm) := hl
  rw [hl] at h; cases h)

theorem sums {i : Nat} (hi : i < ks.length) {f f' : Nat} (hDi : D i = ⟨7, f, 0⟩) : Ssum ks.length (upd D i ⟨7, f', 0⟩) = Ssum ks.length D ∧ Vc ks.length (upd D i ⟨7, f', 0⟩) = Vc ks.length D := by
  have h1 := sumTo_upd D (⟨7, f', 0⟩ : WD) WD.stage hi
  have h2 := Vc_upd D (⟨7, f', 0⟩ : WD) hi
  simp only [hDi, cnt] at h1 h2
  exact ⟨by simp only [Ssum]; omega, by omega⟩

/-- A worker at its send. -/
theorem sendStop (hne : ty ≠ rel) (hAr : ∀ g w, An g w → g.status = .running) (ha : gs[0]? = some a) (hcs : CS P ty Wg rel Sh z Fin An V ks tag f0 d0 a w) (hcom : Com P ty Wg rel Sh m0 ks gs w t X D q d0) (hg : GOk ty Wg n V ks X D w tag)
    {i : Nat} {k : Kid} (hk : ks[i]? = some k) {v : Value} {vs : List Value} {fu : Nat} {g : Goroutine} (hX : X i = ⟨v :: vs, 2⟩) (hDi : D i = ⟨7, fu, 0⟩) (hgi : gs[m0 + i]? = some g) (hst : SendK P ty Wg rel k (v :: vs) g w) :
    Leads P ty Wg rel Sh z Fin An V n W m0 (pz n W (Vc ks.length D) tag + Xsum ks.length X + Ssum ks.length D, f0 + 2 * Fsum ks.length D + 2 * sumTo m0 q) (crowd gs w sl) t (m0 + i) := by
  have hp := hcom.pos
  have hlt := get_lt hk
  have hb : (m0 + i == 0) = false := by simp; omega
  obtain ⟨hrun, g₂, z', hgo, hnext⟩ := hst
  have hgo' : stepG P (m0 + i == 0) g w = .comm g₂ #[scase k.c v z'] true .send w #[] := by rw [hb]; exact hgo
  obtain ⟨_, _, _, ⟨s, r, tm, hch⟩, _⟩ := hcom.kid i k hk
  rw [hX] at hch
  have hch : w.heap[k.c]? = some (.chan 0 #[] false s r tm) := hch
  have hkcl : k.c < w.heap.size := (Array.getElem?_eq_some_iff.1 hch).1
  have hnw := hg.notWt hlt (by rw [hX]; simp)
  have hXs : wtX (X i) = 20 * (vs.length + 1) + 4 := by rw [hX]; simp [wtX]
  by_cases hmeet : ∃ l ls, tag = .rp ((k.c, l) :: ls)
  · -- the starter waits there
    obtain ⟨l, ls, rfl⟩ := hmeet
    cases hcs with
    | rp hrp =>
    rename_i g0
    obtain ⟨hlen, ⟨i0, hrv, hst2, _⟩, hwgm⟩ := hg
    obtain ⟨k1, hk1, hkc, hleft⟩ := hrv.2.2 0 k.c l rfl
    rw [Nat.add_zero] at hk1 hleft
    have hii : i0 = i := hcom.dist i0 i k1 k hk1 hk hkc
    subst hii
    rw [hX] at hleft
    subst hleft
    have hps : partners (gs.setIfInBounds (m0 + i0) ph) k.c false = [(0, 0)] := by
      rw [partners_one (j := 0) (g := parked (core g0) #[rcase k.c z] (.recv true)) (by rw [get_set_ne _ (by omega)]; exact ha) (fun j x hj hx => ?_), offersAt_parked_recv]
      · simp
      · rcases getElem?_stand gs (m0 + i0) j x hx with ⟨_, rfl⟩ | ⟨_, hx'⟩
        · exact offersAt_ph _ _
        · exact (offers_old hcom hx' hj k.c).1
    have hT := crowd_send_meets (sl := sl) hgi hgo' hch (show (0 : Nat) ≠ m0 + i0 by omega) ha hps
    have hA := aside_setChan w k.c 0 (s + 1) (r + 1) #[] false tm
    have hch' := setChan_at (s' := s + 1) (r' := r + 1) (buf' := #[]) (cl' := false) (tm' := tm) (cap' := 0) hch
    have hic : IsChan w k.c := ⟨_, _, _, _, _, _, hch⟩
    have hic' : IsChan (w.setChan k.c 0 #[] false (s + 1) (r + 1) tm) k.c := ⟨_, _, _, _, _, _, hch'⟩
    have hw : WOk ty Wg rel ks w (w.setChan k.c 0 #[] false (s + 1) (r + 1) tm) := WOk.of_chan hA hic hic' (hcom.capChan hk)
    obtain ⟨m, hG⟩ := hnext _ (hw.rk (mem_of_get hk))
    have hstop := hrp w (RR.refl w)
    have hrcv : RcvS P ty Wg rel Sh z An ks ((k.c, vs) :: ls) (Conc.served (core g0) (.tuple #[v, .bool true])) (w.setChan k.c 0 #[] false (s + 1) (r + 1) tm) := hstop.2.2 _ (rr_chan (hcom.lo k (mem_of_get hk)) hA hic hic') _ rfl
    obtain ⟨m2, hG2⟩ := (rcvS_cons P ty Wg rel Sh z An ks k.c vs ls _ _).1 hrcv
    have hcom' := hcom.comm hk (gs' := ((gs.setIfInBounds 0 ((core g0).finishComm P #[rcase k.c z] (.recv true) 0 v true)).setIfInBounds (m0 + i0) (g₂.finishComm P #[scase k.c v z'] .send 0 undef false)))
      (u := MemOp.ofEvents (m0 + i0) g.frame.fn g.frame.place #[] ++ #[{ g := m0 + i0, fn := g₂.frame.fn, pos := g₂.frame.place, act := .send k.c s }, { g := 0, fn := (core g0).frame.fn, pos := (core g0).frame.place, act := .recv k.c r 0 },
        { g := m0 + i0, fn := g₂.frame.fn, pos := g₂.frame.place, act := .sendDone k.c s }, { g := 0, fn := (core g0).frame.fn, pos := (core g0).frame.place, act := .recvDone k.c r }])
      (x' := ⟨vs, 2⟩) (f' := m) (by simp) (get_set_same _ (by simp [hcom.size]; omega)) (fun j h0 h1 => by rw [get_set_ne _ (Ne.symm h1), get_set_ne _ (Ne.symm h0)]) hw (fun i' k' hk' => by
        by_cases e : i' = i0
        · subst e
          rw [hk] at hk'; cases hk'
          rw [upd_same]
          exact ⟨_, _, _, hch'⟩
        · rw [upd_ne _ _ e, hA.block _ (fun e' => e (hcom.dist i' i0 k' k hk' hk e'))]
          obtain ⟨_, _, _, hc, _⟩ := hcom.kid i' k' hk'
          exact hc) (.walk hG) (by rw [hDi]) (by
        intro op hop
        simp only [MemOp.ofEvents, Array.isEmpty_empty, if_true, Array.empty_append, List.mem_toArray, List.mem_cons, List.not_mem_nil, or_false] at hop
        rcases hop with rfl | rfl | rfl | rfl
        · exact .inr rfl
        · exact .inl rfl
        · exact .inr rfl
        · exact .inl rfl) (by
        intro op hop
        have hkcl' : k.c < (w.setChan k.c 0 #[] false (s + 1) (r + 1) tm).heap.size := hic'.lt
        simp only [MemOp.ofEvents, Array.isEmpty_empty, if_true, Array.empty_append, List.mem_toArray, List.mem_cons, List.not_mem_nil, or_false] at hop
        rcases hop with rfl | rfl | rfl | rfl <;> exact ⟨rfl, hkcl', by simp, by simp, by simp⟩)
    obtain ⟨hS, hV⟩ := sums hlt hDi (f' := m)
    have hXu := Xsum_upd X ⟨vs, 2⟩ hlt
    rw [hXs] at hXu
    have hwv : wtX ⟨vs, 2⟩ = 20 * vs.length + 4 := by simp [wtX]
    rw [hwv] at hXu
    refine ⟨_, _, (pz n W (Vc ks.length (upd D i0 ⟨7, m, 0⟩)) (.rv ((k.c, vs) :: ls)) + Xsum ks.length (upd X i0 ⟨vs, 2⟩) + Ssum ks.length (upd D i0 ⟨7, m, 0⟩), m2 + 2 * Fsum ks.length (upd D i0 ⟨7, m, 0⟩) + 2 * sumTo m0 q), hT, ?_, _, _, sl, ks, _, _, q, .rv ((k.c, vs) :: ls), m2, 0, _, rfl, ?_, .rv hG2, hcom', ?_, rfl⟩
    · refine Prod.Lex.left _ _ ?_
      rw [hS]
      simp only [pz, List.length_cons]
      omega
    · rw [get_set_ne _ (by omega), get_set_same _ (by rw [hcom.size]; omega)]; rfl
    · obtain ⟨st, sm, hwg, hmd⟩ := hwgm
      refine ⟨hlen, ⟨i0, ⟨by simpa using hrv.1, fun j hj => by rw [upd_ne _ _ (by omega)]; exact hrv.2.1 j hj, fun p c l hl => ?_⟩⟩, st, sm, hwg.of_block (wg_of_aside (st := 0) (sm := 0) hA hic hcom.live), ?_⟩
      · cases p with
        | zero =>
          simp only [List.getElem?_cons_zero, Option.some.injEq, Prod.mk.injEq] at hl
          obtain ⟨rfl, rfl⟩ := hl
          exact ⟨k, by simpa using hk, rfl, by rw [Nat.add_zero, upd_same]⟩
        | succ p =>
          obtain ⟨k', h1, h2, h3⟩ := hrv.2.2 (p + 1) c l (by simpa using hl)
          exact ⟨k', h1, h2, by rw [upd_ne _ _ (by omega)]; exact h3⟩
      · refine hmd.congr fun j hj => ?_
        by_cases e : j = i0
        · subst e; rw [upd_same, hDi]
        · rw [upd_ne _ _ e]
  · -- nobody waits there: it parks
    have hps : partners (gs.setIfInBounds (m0 + i) ph) k.c false = [] := by
      refine partners_nil fun j x hx => ?_
      rcases getElem?_stand gs (m0 + i) j x hx with ⟨_, rfl⟩ | ⟨_, hx'⟩
      · exact offersAt_ph _ _
      · by_cases hj : j = 0
        · subst hj
          rw [ha] at hx'; cases hx'
          exact (offers_caller hAr hcs k.c).2 fun l ls e => hmeet ⟨l, ls, e⟩
        · exact (offers_old hcom hx' hj k.c).1
    have hT := crowd_waits (sl := sl) hgi hgo' (by
      intro cc hcc
      simp only [List.mem_toArray, List.mem_singleton] at hcc
      subst hcc
      exact ways_send_none hch (by simp) hps)
    have hcom' := hcom.comm hk (gs' := gs.setIfInBounds (m0 + i) (parked g₂ #[scase k.c v z'] .send)) (u := MemOp.ofEvents (m0 + i) g.frame.fn g.frame.place #[]) (x' := ⟨v :: vs, 1⟩) (f' := 0) (by simp) (get_set_same _ (by rw [hcom.size]; omega))
      (fun j h0 h1 => by rw [get_set_ne _ (Ne.symm h1)]) (WOk.refl w) (fun i' k' hk' => by
        obtain ⟨_, _, _, hc, _⟩ := hcom.kid i' k' hk'
        by_cases e : i' = i
        · subst e
          rw [hk] at hk'; cases hk'
          rw [upd_same]
          exact ⟨_, _, _, hch⟩
        · rw [upd_ne _ _ e]; exact hc) (.park hnext) (by rw [hDi]) (by intro op hop; simp [MemOp.ofEvents] at hop) (by intro op hop; simp [MemOp.ofEvents] at hop)
    obtain ⟨hS, hV⟩ := sums hlt hDi (f' := 0)
    have hXu := Xsum_upd X ⟨v :: vs, 1⟩ hlt
    rw [hXs] at hXu
    have hwv : wtX ⟨v :: vs, 1⟩ = 20 * (vs.length + 1) + 2 := by simp [wtX]
    rw [hwv] at hXu
    refine ⟨_, _, (pz n W (Vc ks.length (upd D i ⟨7, 0, 0⟩)) tag + Xsum ks.length (upd X i ⟨v :: vs, 1⟩) + Ssum ks.length (upd D i ⟨7, 0, 0⟩), f0 + 2 * Fsum ks.length (upd D i ⟨7, 0, 0⟩) + 2 * sumTo m0 q), hT, ?_, _, _, sl, ks, _, _, q, tag, f0, d0, a, rfl, ?_, hcs, hcom', ?_, rfl⟩
    · refine Prod.Lex.left _ _ ?_
      rw [hS, hV]
      omega
    · rw [get_set_ne _ (by omega)]; exact ha
    · have md : ∀ {c st sm}, ks.length = n → ConcN.Mode n D c st sm → ConcN.Mode n (upd D i ⟨7, 0, 0⟩) c st sm := fun _ hm => hm.congr fun j hj => by
        by_cases e : j = i
        · subst e; rw [upd_same, hDi]
        · rw [upd_ne _ _ e]
      have rv' : ∀ {ls i0}, RvOk ks X ls i0 → RvOk ks (upd X i ⟨v :: vs, 1⟩) ls i0 := fun {ls i0} hr => by
        refine ⟨hr.1, fun j hj => ?_, fun p c l hl => ?_⟩
        · by_cases e : j = i
          · subst e
            have := hr.2.1 j hj
            rw [hX] at this; cases this
          · rw [upd_ne _ _ e]; exact hr.2.1 j hj
        · obtain ⟨k', h1, h2, h3⟩ := hr.2.2 p c l hl
          refine ⟨k', h1, h2, ?_⟩
          by_cases e : i0 + p = i
          · rw [e, upd_same, ← h3, e, hX]
          · rw [upd_ne _ _ e]; exact h3
      cases tag with
      | st r' s' =>
        refine ⟨hg.1, fun j hj => ?_⟩
        by_cases e : j = i
        · subst e
          rw [upd_same]
          have := (hg.2 j hj).1
          rw [hX] at this
          exact ⟨this, by simp⟩
        · rw [upd_ne _ _ e]; exact hg.2 j hj
      | rv ls =>
        obtain ⟨h1, ⟨i0, h2⟩, st, sm, h3, h4⟩ := hg
        exact ⟨h1, ⟨i0, rv' h2⟩, st, sm, h3, md h1 h4⟩
      | rp ls =>
        obtain ⟨h1, ⟨i0, h2, h2b, h2c⟩, st, sm, h3, h4⟩ := hg
        refine ⟨h1, ⟨i0, rv' h2, ?_, h2c⟩, st, sm, h3, md h1 h4⟩
        by_cases e : i0 = i
        · subst e
          cases ls with
          | nil => exact absurd rfl h2c
          | cons cl ls =>
            obtain ⟨c, l⟩ := cl
            obtain ⟨k1, hk1, hkc, _⟩ := h2.2.2 0 c l rfl
            rw [Nat.add_zero, hk] at hk1
            cases hk1
            exact absurd ⟨l, ls, by rw [hkc]⟩ hmeet
        · rw [upd_ne _ _ e]; exact h2b
      | wt c => exact absurd rfl (hnw c)

/-- A worker at its close. -/
theorem closeStop (hne : ty ≠ rel) (hAr : ∀ g w, An g w → g.status = .running) (hVn : ∀ i, i < n → V i ≠ []) (ha : gs[0]? = some a) (hcs : CS P ty Wg rel Sh z Fin An V ks tag f0 d0 a w) (hcom : Com P ty Wg rel Sh m0 ks gs w t X D q d0) (hg : GOk ty Wg n V ks X D w tag)
    {i : Nat} {k : Kid} (hk : ks[i]? = some k) {fu : Nat} {g : Goroutine} (hX : X i = ⟨[], 2⟩) (hDi : D i = ⟨7, fu, 0⟩) (hgi : gs[m0 + i]? = some g) (hst : SendK P ty Wg rel k [] g w) :
    Leads P ty Wg rel Sh z Fin An V n W m0 (pz n W (Vc ks.length D) tag + Xsum ks.length X + Ssum ks.length D, f0 + 2 * Fsum ks.length D + 2 * sumTo m0 q) (crowd gs w sl) t (m0 + i) := by
  have hp := hcom.pos
  have hlt := get_lt hk
  have hb : (m0 + i == 0) = false := by simp; omega
  obtain ⟨_, _, _, ⟨s, r, tm, hch⟩, _⟩ := hcom.kid i k hk
  rw [hX] at hch
  have hch : w.heap[k.c]? = some (.chan 0 #[] false s r tm) := hch
  obtain ⟨hrun, hmw, hall⟩ := hst
  obtain ⟨g₂, hgo, v, m, hG⟩ := hall s r tm hch
  have hrun2 : g₂.status = .running := Goes.running (fun _ _ x => x.1) _ (RW.refl _) hG
  have hT := runT_crowd_go (P := P) (sl := sl) (i := m0 + i) hgi (by rw [hb]; exact hgo)
  have hnw := hg.notWt hlt (by rw [hX]; simp)
  have hns : ∀ r s, tag ≠ .st r s := by
    rintro r s rfl
    have h2 := hg.2 i hlt
    rw [hX] at h2
    exact hVn i (by have := hg.1; omega) h2.1.symm
  have hA : Aside k.c w (w.shut k.c s r tm) := Aside.put k.c w _
  have hch' : (w.shut k.c s r tm).heap[k.c]? = some (.chan 0 #[] true s r tm) := heap_put hch
  have hic : IsChan w k.c := ⟨_, _, _, _, _, _, hch⟩
  have hic' : IsChan (w.shut k.c s r tm) k.c := ⟨_, _, _, _, _, _, hch'⟩
  have hw : WOk ty Wg rel ks w (w.shut k.c s r tm) := WOk.of_chan hA hic hic' (hcom.capChan hk)
  have hrr : RR ty Wg w (w.shut k.c s r tm) := rr_chan (hcom.lo k (mem_of_get hk)) hA hic hic'
  have hrel : relyOf ty Wg tag w (w.shut k.c s r tm) := by
    cases tag with
    | st r s => exact absurd rfl (hns r s)
    | wt c => exact absurd rfl (hnw c)
    | rv ls => exact hrr
    | rp ls => exact hrr
  obtain ⟨tag', f', hcs', hf', hwk, _, hopen, _⟩ := hcs.wokenBy hAr hrel g g₂ (fun c l ls e => by
    by_cases e' : c = k.c
    · subst e'
      exact ⟨true, s, r, tm, hch', fun _ => ⟨hmw, hrun2⟩⟩
    · obtain ⟨s', r', tm', hc⟩ := rp_open hcom hg c l ls e
      exact ⟨false, s', r', tm', by rw [hA.block c e']; exact hc, fun x => by cases x⟩)
  have hcom' := hcom.stepWt hne hk (g := g) (g' := g₂) (fn := g.frame.fn) (pos := g.frame.place) (es := #[⟨.obj k.c, false, true⟩, ⟨.obj k.c, true, true⟩]) (x' := ⟨[], 0⟩) (d' := ⟨7, m, 0⟩) hw (fun i' k' hk' => by
      by_cases e : i' = i
      · subst e
        rw [hk] at hk'; cases hk'
        rw [upd_same]
        exact ⟨_, _, _, hch'⟩
      · rw [upd_ne _ _ e, hA.block _ (fun e' => e (hcom.dist i' i k' k hk' hk e'))]
        obtain ⟨_, _, _, hc, _⟩ := hcom.kid i' k' hk'
        exact hc) (.r0 hG) (by
      intro A T
      obtain ⟨_, _, _, _, hdf, _⟩ := hcom.kid i k hk
      rw [hDi] at hdf
      refine T.appC A hlt g_of_ofEvents (fun op hop => ?_) (fun x h1 h2 => ?_) (fun op hop x hx => ?_)
      · obtain ⟨e, he, rfl⟩ := Go.Conc.mem_ofEvents hop
        simp only [List.mem_toArray, List.mem_cons, List.not_mem_nil, or_false] at he
        rcases he with rfl | rfl <;> exact hic'.lt
      · exact heard_close hdf h1 h2
      · obtain ⟨e, he, rfl⟩ := Go.Conc.mem_ofEvents hop
        simp only [List.mem_toArray, List.mem_cons, List.not_mem_nil, or_false] at he
        rcases he with rfl | rfl
        · simp only [MemAct.ofEvent, MemAct.touch?, Option.some.injEq] at hx
          subst hx
          exact ⟨.inr ⟨k, hk, rfl⟩, rfl, rfl⟩
        · simp [MemAct.ofEvent, MemAct.touch?] at hx) (norel_of fun e he => by simp only [List.mem_toArray, List.mem_cons, List.not_mem_nil, or_false] at he; rcases he with rfl | rfl <;> simp) (by rw [hDi]; rfl) (fun h => absurd h (by simp))
  obtain ⟨hS, hV⟩ := sums hlt hDi (f' := m)
  have hXu := Xsum_upd X ⟨[], 0⟩ hlt
  have hw1 : wtX (X i) = 4 := by rw [hX]; simp [wtX]
  have hw2 : wtX ⟨[], 0⟩ = 0 := by simp [wtX]
  rw [hw1, hw2] at hXu
  have hph : pz n W (Vc ks.length D) tag' ≤ pz n W (Vc ks.length D) tag + 1 := by
    rcases hwk with rfl | ⟨ls, rfl, rfl⟩ | ⟨rfl, rfl⟩
    · omega
    · simp only [pz]; omega
    · exact absurd rfl (hnw _)
  refine ⟨_, _, (pz n W (Vc ks.length (upd D i ⟨7, m, 0⟩)) tag' + Xsum ks.length (upd X i ⟨[], 0⟩) + Ssum ks.length (upd D i ⟨7, m, 0⟩), f' + 2 * Fsum ks.length (upd D i ⟨7, m, 0⟩) + 2 * sumTo m0 q), hT, ?_, _, _, sl, ks, _, _, q, tag', f', d0, _, rfl, ?_, hcs', hcom', ?_, rfl⟩
  · refine Prod.Lex.left _ _ ?_
    rw [hS, hV]
    omega
  · rw [get_map_set _ _ _ _ (by omega), ha]; rfl
  · have md : ∀ {c st sm}, ks.length = n → ConcN.Mode n D c st sm → ConcN.Mode n (upd D i ⟨7, m, 0⟩) c st sm := fun _ hm => hm.congr fun j hj => by
      by_cases e : j = i
      · subst e; rw [upd_same, hDi]
      · rw [upd_ne _ _ e]
    have hwg' := wg_of_aside (st := 0) (sm := 0) hA hic hcom.live
    have rv' : ∀ {ls i0}, RvOk ks X ls i0 → RvOk ks (upd X i ⟨[], 0⟩) ls i0 := fun {ls i0} hr => by
      refine ⟨hr.1, fun j hj => ?_, fun p c l hl => ?_⟩
      · by_cases e : j = i
        · subst e; rw [upd_same]
        · rw [upd_ne _ _ e]; exact hr.2.1 j hj
      · obtain ⟨k', h1, h2, h3⟩ := hr.2.2 p c l hl
        refine ⟨k', h1, h2, ?_⟩
        by_cases e : i0 + p = i
        · rw [e, upd_same, ← h3, e, hX]
        · rw [upd_ne _ _ e]; exact h3
    cases tag with
    | st r s => exact absurd rfl (hns r s)
    | wt c => exact absurd rfl (hnw c)
    | rv ls =>
      obtain ⟨h1, ⟨i0, h2⟩, st, sm, h3, h4⟩ := hg
      rcases hwk with rfl | ⟨ls', e, rfl⟩ | ⟨e, _⟩
      · exact ⟨h1, ⟨i0, rv' h2⟩, st, sm, h3.of_block hwg', md h1 h4⟩
      · cases e
      · cases e
    | rp ls =>
      obtain ⟨h1, ⟨i0, h2, h2b, h2c⟩, st, sm, h3, h4⟩ := hg
      rcases hwk with rfl | ⟨ls', e, rfl⟩ | ⟨e, _⟩
      · refine ⟨h1, ⟨i0, rv' h2, ?_, h2c⟩, st, sm, h3.of_block hwg', md h1 h4⟩
        by_cases e : i0 = i
        · subst e
          cases ls with
          | nil => exact absurd rfl h2c
          | cons cl ls =>
            obtain ⟨c, l⟩ := cl
            obtain ⟨k1, hk1, hkc, _⟩ := h2.2.2 0 c l rfl
            rw [Nat.add_zero, hk] at hk1
            cases hk1
            obtain ⟨_, _, _, ho⟩ := hopen c l ls rfl
            rw [← hkc, hch'] at ho
            cases ho
        · rw [upd_ne _ _ e]; exact h2b
      · cases e
        exact ⟨h1, ⟨i0, rv' h2⟩, st, sm, h3.of_block hwg', md h1 h4⟩
      · cases e
end
end Go.Ph

namespace Go.Ph
open Go Go.Conc Go.ConcN
open Go.ConcR (KK wgBlock WgAt stA smA rd wr mk Payload Aside2 DC0 Bk g_of_ofEvents bk_of_mute ofEvent_loc_mark loc_of_ofEvent ofEvent_cell ofEvent_mk)
open Go.Br (ShunOf)
set_option linter.unusedVariables false
set_option linter.unusedSimpArgs false
set_option linter.unusedSectionVars false

section
variable {P : Program} {ty : TypeId} {Wg : Nat} {rel : TypeId} [Payload] {Sh : Nat → Bool} {z : Value} {Fin An : Goroutine → World → Prop} {V : Nat → List Value} {n W m0 : Nat}
  {ks : List Kid} {gs : Array Goroutine} {w w' : World} {sl : Option (Nat × Nat)} {t : Trace} {X X' : Nat → WX} {D D' : Nat → WD} {q : Nat → Nat} {tag tag' : Tg} {f0 d0 : Nat} {a : Goroutine}

theorem GOk.mode (h : GOk ty Wg n V ks X D w tag) {i : Nat} (hi : i < ks.length) (hx : (X i).st = 0) : (∀ r s, tag ≠ .st r s) ∧ ks.length = n ∧ ∃ st sm, WgAt ty Wg w st sm ∧ ConcN.Mode n D (kt tag) st sm := by
  cases tag with
  | st r s => have := (h.2 i hi).2; omega
  | rv ls => obtain ⟨h1, _, st, sm, h3, h4⟩ := h; exact ⟨by simp, h1, st, sm, h3, h4⟩
  | rp ls => obtain ⟨h1, _, st, sm, h3, h4⟩ := h; exact ⟨by simp, h1, st, sm, h3, h4⟩
  | wt c => obtain ⟨h1, _, st, sm, h3, h4⟩ := h; exact ⟨by simp, h1, st, sm, h3, h4⟩

theorem GOk.setMode (h : GOk ty Wg n V ks X D w tag) (hns : ∀ r s, tag ≠ .st r s) (hr : Ret tag tag') {st sm : Int} (hw : WgAt ty Wg w' st sm) (hm : ConcN.Mode n D' (kt tag') st sm) : GOk ty Wg n V ks X D' w' tag' := by
  rcases hr with rfl | ⟨rfl, rfl⟩
  · cases tag' with
    | st r s => exact absurd rfl (hns r s)
    | rv ls => exact ⟨h.1, h.2.1, st, sm, hw, hm⟩
    | rp ls => exact ⟨h.1, h.2.1, st, sm, hw, hm⟩
    | wt c => exact ⟨h.1, h.2.1, st, sm, hw, hm⟩
  · exact ⟨h.1, h.2.1, st, sm, hw, hm⟩

theorem pz_mono {v v' : Nat} (h : v' ≤ v) : pz n W v' tag ≤ pz n W v tag := by
  cases tag with
  | wt c => exact phi_mono n h c
  | _ => exact Nat.le_refl _

theorem kt_ret (hr : Ret tag tag') : kt tag' = kt tag ∨ (kt tag = .blk ∧ kt tag' = .w3) := by
  rcases hr with rfl | ⟨rfl, rfl⟩
  · exact .inl rfl
  · exact .inr ⟨rfl, rfl⟩

theorem rr_wg (hA : Aside Wg w w') (hl : WgLive ty Wg w) (hl' : WgLive ty Wg w') : RR ty Wg w w' := by
  refine ⟨⟨hA.tape, hA.os, hA.output⟩, Nat.le_of_eq hA.size.symm, fun b _ _ hb => hA.block b hb, fun b hb => hb.of (hA.block b ?_), fun _ => hl'⟩
  rintro rfl
  obtain ⟨_, _, _, _, _, _, h⟩ := hb
  obtain ⟨st, sm, hl⟩ := hl
  have hl : w.heap[b]? = some (wgBlock ty st sm) := hl
  rw [hl] at h; cases h

theorem sumsT {i : Nat} (hi : i < ks.length) (d' : WD) : Ssum ks.length (upd D i d') + (D i).stage = Ssum ks.length D + d'.stage ∧ Fsum ks.length (upd D i d') + (D i).fuel = Fsum ks.length D + d'.fuel ∧ Vc ks.length (upd D i d') + cnt (D i) = Vc ks.length D + cnt d' :=
  ⟨sumTo_upd D d' WD.stage hi, sumTo_upd D d' WD.fuel hi, Vc_upd D d' hi⟩

/-- Whatever step behind its close: at most the group's block turns. -/
theorem tailGo (hne : ty ≠ rel) (hAr : ∀ g w, An g w → g.status = .running) (ha : gs[0]? = some a) (hcs : CS P ty Wg rel Sh z Fin An V ks tag f0 d0 a w) (hcom : Com P ty Wg rel Sh m0 ks gs w t X D q d0) (hg : GOk ty Wg n V ks X D w tag)
    {i : Nat} {k : Kid} (hk : ks[i]? = some k) {g g' : Goroutine} {es : Array Event} {d' : WD} {st' sm' : Int} (hX : X i = ⟨[], 0⟩) (hgi : gs[m0 + i]? = some g)
    (hgo : stepG P false g w = .go g' w' es) (hAs : Aside Wg w w') (hwg' : WgAt ty Wg w' st' sm') (hok : ∀ op ∈ MemOp.ofEvents (m0 + i) g.frame.fn g.frame.place es, OkW (ShN Wg) (RdOf rel ks w' i) w'.heap.size op)
    (hnr : ∀ e ∈ es, e.loc ≠ .mark (.release (stA Wg))) (hs' : WS P ty Wg rel k ⟨[], 0⟩ d' g' w') (hdeaf : deafBehind (D i).deaf es = d'.deaf)
    (hrel : d'.stage ≤ 6 → ∃ r, RelBy (stA Wg) (t ++ MemOp.ofEvents (m0 + i) g.frame.fn g.frame.place es) (m0 + i) r)
    (hmode : ∀ tag', Ret tag tag' → (mayWake P g = true → g'.status = .running → tag' ≠ .wt .blk) → ConcN.Mode n (upd D i d') (kt tag') st' sm')
    (hlt : (d'.stage < (D i).stage ∧ cnt d' ≤ cnt (D i)) ∨ (d'.stage = (D i).stage ∧ d'.fuel + 1 = (D i).fuel)) :
    Leads P ty Wg rel Sh z Fin An V n W m0 (pz n W (Vc ks.length D) tag + Xsum ks.length X + Ssum ks.length D, f0 + 2 * Fsum ks.length D + 2 * sumTo m0 q) (crowd gs w sl) t (m0 + i) := by
  have hp := hcom.pos
  have hil := get_lt hk
  have hb : (m0 + i == 0) = false := by simp; omega
  obtain ⟨hns, hlen, _⟩ := hg.mode hil (by rw [hX])
  have hT := runT_crowd_go (P := P) (sl := sl) (i := m0 + i) hgi (by rw [hb]; exact hgo)
  have hl' : WgLive ty Wg w' := ⟨_, _, hwg'⟩
  have hrelc : relyOf ty Wg tag w w' := by
    cases tag with
    | st r s => exact absurd rfl (hns r s)
    | rv ls => exact rr_wg hAs hcom.live hl'
    | rp ls => exact rr_wg hAs hcom.live hl'
    | wt c => exact RC.of_wg hAs hl'
  have hchan : ∀ (i' : Nat) (k' : Kid), ks[i']? = some k' → w'.heap[k'.c]? = w.heap[k'.c]? := fun i' k' hk' => hAs.block _ (by
    intro e
    obtain ⟨_, _, _, _, _, _, h⟩ := hcom.isChan hk'
    obtain ⟨st, sm, hl⟩ := hcom.live
    have hl : w.heap[Wg]? = some (wgBlock ty st sm) := hl
    rw [e, hl] at h; cases h)
  obtain ⟨tag', f', hcs', hf', hret, hnb⟩ := other hAr hcs hrelc g g' (fun c l ls e => by
    obtain ⟨s, r, tm, hc⟩ := rp_open hcom hg c l ls e
    refine ⟨s, r, tm, ?_⟩
    rw [hAs.block c ?_]
    · exact hc
    · rintro rfl
      obtain ⟨st, sm, hl⟩ := hcom.live
      have hl : w.heap[c]? = some (wgBlock ty st sm) := hl
      rw [hl] at hc; cases hc)
  have hw : WOk ty Wg rel ks w w' := WOk.of_wg hne hAs hcom.live hl' hcom.capWg
  have hcom' := hcom.stepW hne hk (g := g) (g' := g') (fn := g.frame.fn) (pos := g.frame.place) (es := es) (x' := ⟨[], 0⟩) (d' := d') hw (fun i' k' hk' => by
      rw [hchan i' k' hk', ← hX, upd_self]
      obtain ⟨_, _, _, hc, _⟩ := hcom.kid i' k' hk'
      exact hc) hs' hok (norel_of hnr) hdeaf hrel
  obtain ⟨hS, hF, hV⟩ := sumsT (D := D) hil d'
  refine ⟨_, _, (pz n W (Vc ks.length (upd D i d')) tag' + Xsum ks.length (upd X i ⟨[], 0⟩) + Ssum ks.length (upd D i d'), f' + 2 * Fsum ks.length (upd D i d') + 2 * sumTo m0 q), hT, ?_, _, _, sl, ks, _, _, q, tag', f', d0, _, rfl, ?_, hcs', hcom', ?_, rfl⟩
  · rw [pz_ret hret, ← hX, upd_self]
    rcases hlt with ⟨h1, h2⟩ | ⟨h1, h2⟩
    · refine Prod.Lex.left _ _ ?_
      have := pz_mono (n := n) (W := W) (tag := tag) (show Vc ks.length (upd D i d') ≤ Vc ks.length D by omega)
      omega
    · have hc : cnt d' = cnt (D i) := by simp only [cnt, h1]
      have e1 : Vc ks.length (upd D i d') = Vc ks.length D := by omega
      have e2 : Ssum ks.length (upd D i d') = Ssum ks.length D := by omega
      rw [e1, e2]
      exact Prod.Lex.right _ (by omega)
  · rw [get_map_set _ _ _ _ (by omega), ha]; rfl
  · have : upd X i ⟨[], 0⟩ = X := by rw [← hX, upd_self]
    rw [this]
    exact hg.setMode hns hret hwg' (hmode tag' hret hnb)

set_option maxHeartbeats 1600000 in
/-- A step of a worker's. -/
theorem stepWorker (hne : ty ≠ rel) (hn : n < 2147483648) (hAr : ∀ g w, An g w → g.status = .running) (hVn : ∀ i, i < n → V i ≠ []) (ha : gs[0]? = some a) (hcs : CS P ty Wg rel Sh z Fin An V ks tag f0 d0 a w) (hcom : Com P ty Wg rel Sh m0 ks gs w t X D q d0) (hg : GOk ty Wg n V ks X D w tag)
    {i : Nat} (hi : i < ks.length) {g : Goroutine} (hgi : gs[m0 + i]? = some g) (hrun : g.status = .running) :
    Leads P ty Wg rel Sh z Fin An V n W m0 (pz n W (Vc ks.length D) tag + Xsum ks.length X + Ssum ks.length D, f0 + 2 * Fsum ks.length D + 2 * sumTo m0 q) (crowd gs w sl) t (m0 + i) := by
  obtain ⟨k, hk⟩ := get_of_lt hi
  obtain ⟨g₁, hg₁, hs, _, hdk0, hrel0⟩ := hcom.kid i k hk
  obtain rfl : g = g₁ := by rw [hgi] at hg₁; exact Option.some.inj hg₁
  generalize hXi : X i = x at hs
  generalize hDi : D i = d at hs hdk0 hrel0
  cases hs with
  | walk h =>
    rename_i vs f
    rcases Goes.cases h with hstop | ⟨m', rfl, hstep⟩
    · have hst := hstop w (RK.refl w)
      cases vs with
      | nil => exact closeStop hne hAr hVn ha hcs hcom hg hk hXi hDi hgi hst
      | cons v vs => exact sendStop hne hAr ha hcs hcom hg hk hXi hDi hgi hst
    · obtain ⟨g', w', es, hgo, hD, hG⟩ := hstep w (RK.refl w)
      exact idleWorker hne hAr ha hcs hcom hg hk hXi hDi hgi hgo hD hG
  | park h => simp [parked] at hrun
  | r0 h =>
    rename_i f v
    obtain ⟨hns, hlen, st, sm, hwg, hmode⟩ := hg.mode hi (by rw [hXi])
    have hin : i < n := by omega
    rcases Goes.cases h with hstop | ⟨m', rfl, hstep⟩
    · obtain ⟨_, hhas, g', hgo, m₂, hk1⟩ := hstop w (RW.refl w)
      refine tailGo hne hAr ha hcs hcom hg hk hXi hgi hgo (.refl Wg w) hwg ?_ (by intro e he; simp at he; subst he; simp [mk]) (.tail (by omega) (.k1 (v := v) hk1)) (by rw [hDi]; rfl) (fun _ => ⟨t.size, RelBy.new hdk0 _ _⟩)
        (fun tag' hr _ => (hmode.counted hin (by rw [hDi]; simp) (.inl rfl) _ _).retag (kt_ret hr)) (.inl ⟨by rw [hDi]; simp, by simp [cnt, hDi]⟩)
      intro op hop
      obtain ⟨e, he, rfl⟩ := Go.Conc.mem_ofEvents hop
      simp at he; subst he
      exact ⟨hcom.wgLt, fun x hx => by simp [mk, MemAct.ofEvent, MemAct.touch?] at hx⟩
    · obtain ⟨g', w', es, hgo, ⟨rfl, rfl⟩, hG⟩ := hstep w (RW.refl w)
      refine tailGo hne hAr ha hcs hcom hg hk hXi hgi hgo (.refl Wg w') hwg (by intro op hop; simp [MemOp.ofEvents] at hop) (by simp) (.r0 hG) (by rw [hDi]; rfl) (fun h => absurd h (by simp))
        (fun tag' hr _ => ?_) (.inr ⟨by rw [hDi], by rw [hDi]⟩)
      have := hmode.same (i := i) m' 0
      rw [hDi] at this
      exact this.retag (kt_ret hr)
  | tail hs6 h =>
    rename_i s m dd v
    obtain ⟨hns, hlen, st, sm, hwg, hmode⟩ := hg.mode hi (by rw [hXi])
    have hin : i < n := by omega
    have hst : (D i).stage = s := by rw [hDi]
    have hfu : (D i).fuel = m := by rw [hDi]
    have hde : (D i).deaf = dd := by rw [hDi]
    have hdk : Deaf t (m0 + i) = dd := hdk0
    have hVn' := Vc_le n D
    -- the library's bookkeeping
    have bookG : ∀ {g' : Goroutine} {w' : World} {es : Array Event} {s' m' dd' : Nat} {v' : Value} {st' sm' : Int}, stepG P false g w = .go g' w' es → Aside Wg w w' → WgAt ty Wg w' st' sm' → (∀ e ∈ es, Bk Wg e) →
        (∀ jx e, es[jx]? = some e → (MemAct.ofEvent e).touch? = none ∨ 0 < deafBehind dd (es.extract 0 jx)) → s' ≤ 6 → WSit P ty Wg k.box 1 No No 0 1 v' s' m' dd' g' w' → deafBehind dd es = dd' →
        (∀ tag', Ret tag tag' → (mayWake P g = true → g'.status = .running → tag' ≠ .wt .blk) → ConcN.Mode n (upd D i ⟨s', m', dd'⟩) (kt tag') st' sm') → ((s' < s ∧ cnt ⟨s', m', dd'⟩ ≤ cnt (D i)) ∨ (s' = s ∧ m' + 1 = m)) →
        Leads P ty Wg rel Sh z Fin An V n W m0 (pz n W (Vc ks.length D) tag + Xsum ks.length X + Ssum ks.length D, f0 + 2 * Fsum ks.length D + 2 * sumTo m0 q) (crowd gs w sl) t (m0 + i) := by
      intro g' w' es s' m' dd' v' st' sm' hgo hAs hwg' hbk hd hs6' hs' hdd hmode' hlt
      have hwl : Wg < w'.heap.size := (Array.getElem?_eq_some_iff.1 (show w'.heap[Wg]? = _ from hwg')).1
      exact tailGo hne hAr ha hcs hcom hg hk hXi hgi hgo hAs hwg' (okW_of_bk hwl hbk) (bk_norel hbk) (.tail hs6' hs') (by rw [hde]; exact hdd) (fun _ => let ⟨r, hr⟩ := hrel0 hs6; ⟨r, hr.book hdk _ _ hbk hd⟩) hmode' (by rw [hst, hfu]; exact hlt)
    have book : ∀ {g' : Goroutine} {w' : World} {es : Array Event} {s' m' dd' : Nat} {v' : Value} {st' sm' : Int}, stepG P false g w = .go g' w' es → Aside Wg w w' → WgAt ty Wg w' st' sm' → (∀ e ∈ es, Bk Wg e) →
        (∀ jx e, es[jx]? = some e → (MemAct.ofEvent e).touch? = none ∨ 0 < deafBehind dd (es.extract 0 jx)) → s' ≤ 6 → WSit P ty Wg k.box 1 No No 0 1 v' s' m' dd' g' w' → deafBehind dd es = dd' →
        ConcN.Mode n (upd D i ⟨s', m', dd'⟩) (kt tag) st' sm' → ((s' < s ∧ cnt ⟨s', m', dd'⟩ ≤ cnt (D i)) ∨ (s' = s ∧ m' + 1 = m)) →
        Leads P ty Wg rel Sh z Fin An V n W m0 (pz n W (Vc ks.length D) tag + Xsum ks.length X + Ssum ks.length D, f0 + 2 * Fsum ks.length D + 2 * sumTo m0 q) (crowd gs w sl) t (m0 + i) :=
      fun hgo hAs hwg' hbk hd hs6' hs' hdd hmode' hlt => bookG hgo hAs hwg' hbk hd hs6' hs' hdd (fun _ hr _ => hmode'.retag (kt_ret hr)) hlt
    have idle : ∀ {g' : Goroutine} {m' : Nat} {v' : Value}, stepG P false g w = .go g' w #[] → WSit P ty Wg k.box 1 No No 0 1 v' s m' dd g' w → m' + 1 = m →
        Leads P ty Wg rel Sh z Fin An V n W m0 (pz n W (Vc ks.length D) tag + Xsum ks.length X + Ssum ks.length D, f0 + 2 * Fsum ks.length D + 2 * sumTo m0 q) (crowd gs w sl) t (m0 + i) := by
      intro g' m' v' hgo hs' hm
      exact book hgo (.refl Wg w) hwg (by simp) (by simp) hs6 hs' rfl (by have := hmode.same (i := i) m' dd; rwa [hst] at this) (.inr ⟨rfl, hm⟩)
    cases h with
    | r0 h => omega
    | k1 h =>
      rcases Goes.cases h with hstop | ⟨m', rfl, hstep⟩
      · obtain ⟨_, g', hgo, m₂, hk1⟩ := hstop w (RW.refl w)
        exact book hgo (.refl Wg w) hwg (by intro e he; simp at he; subst he; exact .inl rfl) (by intro jx e he; exact .inl (by have := Array.mem_of_getElem? he; simp at this; subst this; rfl)) (by omega) (.d1 (v := v) hk1) rfl
          (hmode.counted hin (by omega) (.inr rfl) _ _) (.inl ⟨by omega, by simp [cnt, hst]⟩)
      · obtain ⟨g', w', es, hgo, ⟨rfl, rfl⟩, hg'⟩ := hstep w (RW.refl w)
        exact idle hgo (.k1 (v := v) hg') rfl
    | d1 h =>
      rcases Goes.cases h with hstop | ⟨m', rfl, hstep⟩
      · obtain ⟨_, hall⟩ := hstop w (RW.refl w)
        have hc1 : cnt (D i) = 1 := by simp [cnt, hst]
        have hV1 : 1 ≤ Vc n D := by have := le_sumTo (f := fun x => cnt (D x)) hin; simp only [Vc]; omega
        have bk2 : ∀ e ∈ #[rd (stA Wg), wr (stA Wg)], Bk Wg e := by intro e he; simp at he; rcases he with rfl | rfl <;> exact bk_cell _ _ rfl
        have df2 : ∀ jx e, (#[rd (stA Wg), wr (stA Wg)] : Array Event)[jx]? = some e → (MemAct.ofEvent e).touch? = none ∨ 0 < deafBehind 1 ((#[rd (stA Wg), wr (stA Wg)] : Array Event).extract 0 jx) := by
          intro jx e he
          match jx, he with
          | 0, _ => exact .inr (by simp [deafBehind])
          | 1, _ => exact .inr (by simp [deafBehind, rd])
          | jx + 2, he => simp at he
        have hq0 : ∀ q, cnt (⟨1, q, 1⟩ : WD) = 0 := fun _ => rfl
        have opq : ∀ q, OpenSt n D → OpenSt n (upd D i ⟨1, q, 1⟩) := fun q h a ha => by
          by_cases e : a = i
          · subst e; rw [upd_same]; simp
          · rw [upd_ne D _ e]; exact h a ha
        generalize hkt : kt tag = ct at hmode
        cases hmode with
        | opn h1 h2 h3 =>
          have hp0 : pend ct = 0 := by
            cases tag with
            | wt c =>
              have : c = ct := hkt
              subst this
              cases c <;> first | rfl | exact h1.elim | skip
              rename_i r s
              cases hcs
            | st r s => exact absurd rfl (hns r s)
            | rv ls => rw [← hkt]; rfl
            | rp ls => rw [← hkt]; rfl
          rw [hp0, Nat.add_zero] at hwg
          obtain ⟨v', hv⟩ : ∃ v', Vc n D = v' + 1 := ⟨Vc n D - 1, by omega⟩
          rw [hv] at hwg
          have hw1 : WgAt ty Wg w (((v' : Nat) + 1) * KK + ((0 : Nat) : Int)) 0 := by simpa using hwg
          obtain ⟨g', hgo, _, hq⟩ := hall v' 0 (by omega) (by omega) hw1
          obtain ⟨q', hq⟩ := hq (by omega)
          have hv' : Vc n (upd D i ⟨1, q', 1⟩) = v' := by have := Vc_upd D (⟨1, q', 1⟩ : WD) hin; have := hq0 q'; omega
          refine book hgo (aside_setCell w (stA Wg) _) (hwg.setSt _) bk2 df2 (by omega) (.quit (v := v) hq) rfl ?_ (.inl ⟨by omega, by simp [cnt]⟩)
          have e : ((v' : Nat) : Int) * KK + ((0 : Nat) : Int) = ((Vc n (upd D i ⟨1, q', 1⟩) + pend ct : Nat) : Int) * KK := by rw [hv', hp0]; simp
          rw [e, hkt]
          exact .opn h1 (opq q' h2) (fun vs ev => by have := h3 vs ev; omega)
        | reg h1 h2 h3 =>
          obtain ⟨v', hv⟩ : ∃ v', Vc n D = v' + 1 := ⟨Vc n D - 1, by omega⟩
          rw [hv] at hwg
          have hw1 : WgAt ty Wg w (((v' : Nat) + 1) * KK + ((1 : Nat) : Int)) 0 := by simpa using hwg
          obtain ⟨g', hgo, hl, hq⟩ := hall v' 1 (by omega) (by omega) hw1
          by_cases hv0 : v' = 0
          · subst hv0
            obtain ⟨m₂, hk1⟩ := hl ⟨rfl, rfl⟩
            refine book hgo (aside_setCell w (stA Wg) _) (hwg.setSt _) bk2 df2 (by omega) (.d2 (v := v) hk1) rfl ?_ (.inl ⟨by omega, by simp [cnt]⟩)
            have hoth : ∀ a, a < n → a ≠ i → (D a).stage = 1 := fun a ha e => by
              have c0 := others_uncounted hin hv hc1 a ha e
              have := h2 a ha
              simp only [cnt] at c0
              split at c0 <;> omega
            have := ConcN.Mode.last (j := n) (D := upd D i ⟨4, m₂, 1⟩) (tag := ct) i h1 hin (by rw [upd_same]; simp) (fun a ha e => by rw [upd_ne D _ e]; exact hoth a ha e)
            rw [upd_same] at this
            rw [hkt]
            simpa using this
          · obtain ⟨q', hq⟩ := hq (by omega)
            have hv' : Vc n (upd D i ⟨1, q', 1⟩) = v' := by have := Vc_upd D (⟨1, q', 1⟩ : WD) hin; have := hq0 q'; omega
            refine book hgo (aside_setCell w (stA Wg) _) (hwg.setSt _) bk2 df2 (by omega) (.quit (v := v) hq) rfl ?_ (.inl ⟨by omega, by simp [cnt]⟩)
            have e : ((v' : Nat) : Int) * KK + ((1 : Nat) : Int) = ((Vc n (upd D i ⟨1, q', 1⟩) : Nat) : Int) * KK + 1 := by rw [hv']; simp
            rw [e, hkt]
            exact .reg h1 (opq q' h2) (by omega)
        | last L _ h2 h3 h4 =>
          by_cases e : i = L
          · subst e; omega
          · have := h4 i hin e; omega
        | sema h2 => have := h2 i hin; omega
        | fin _ h2 => have := h2 i hin; omega
      · obtain ⟨g', w', es, hgo, ⟨rfl, rfl⟩, hg'⟩ := hstep w (RW.refl w)
        exact idle hgo (.d1 (v := v) hg') rfl
    | d2 h =>
      rcases Goes.cases h with hstop | ⟨m', rfl, hstep⟩
      · obtain ⟨_, hx⟩ := hstop w (RW.refl w)
        obtain ⟨hW3, hoth, rfl, rfl⟩ := hmode.isLast hin (by omega)
        simp only [hst] at hwg
        obtain ⟨g', hgo, m₂, hk1⟩ := hx (by simpa using hwg)
        refine book hgo (.refl Wg w) hwg (by intro e he; simp at he; subst he; exact bk_cell _ _ rfl) (by intro jx e he; match jx, he with | 0, _ => exact .inr (by simp [deafBehind]) | jx + 1, he => simp at he) (by omega) (.d3 (v := v) hk1) rfl ?_ (.inl ⟨by omega, by simp [cnt]⟩)
        have := ConcN.Mode.last (j := n) (D := upd D i ⟨3, m₂, 1⟩) (tag := kt tag) i hW3 hin (by rw [upd_same]; simp) (fun a ha e => by rw [upd_ne D _ e]; exact hoth a ha e)
        rw [upd_same] at this
        simpa using this
      · obtain ⟨g', w', es, hgo, ⟨rfl, rfl⟩, hg'⟩ := hstep w (RW.refl w)
        exact idle hgo (.d2 (v := v) hg') rfl
    | d3 h =>
      rcases Goes.cases h with hstop | ⟨m', rfl, hstep⟩
      · obtain ⟨_, hx⟩ := hstop w (RW.refl w)
        obtain ⟨hW3, hoth, rfl, rfl⟩ := hmode.isLast hin (by omega)
        simp only [hst] at hwg
        obtain ⟨g', hgo, m₂, hk1⟩ := hx (by simpa using hwg)
        refine book hgo (aside_setCell w (stA Wg) _) (hwg.setSt 0) (by intro e he; simp at he; subst he; exact bk_cell _ _ rfl) (by intro jx e he; match jx, he with | 0, _ => exact .inr (by simp [deafBehind]) | jx + 1, he => simp at he) (by omega) (.d4 (v := v) hk1) rfl ?_ (.inl ⟨by omega, by simp [cnt]⟩)
        have := ConcN.Mode.last (j := n) (D := upd D i ⟨2, m₂, 1⟩) (tag := kt tag) i hW3 hin (by rw [upd_same]; simp) (fun a ha e => by rw [upd_ne D _ e]; exact hoth a ha e)
        rw [upd_same] at this
        simpa using this
      · obtain ⟨g', w', es, hgo, ⟨rfl, rfl⟩, hg'⟩ := hstep w (RW.refl w)
        exact idle hgo (.d3 (v := v) hg') rfl
    | d4 h =>
      rcases Goes.cases h with hstop | ⟨m', rfl, hstep⟩
      · obtain ⟨_, hmw, hx⟩ := hstop w (RW.refl w)
        obtain ⟨hW3, hoth, rfl, rfl⟩ := hmode.isLast hin (by omega)
        simp only [hst] at hwg
        obtain ⟨g', hgo, q', hq⟩ := hx (by simpa using hwg)
        have hrun' : g'.status = .running := by
          cases q' with
          | zero => exact absurd hq.2 (by decide)
          | succ q' => exact hq.elim (fun x => absurd x.2 (by decide)) (fun x => x.1)
        refine bookG hgo (aside_setCell w (smA Wg) _) (hwg.setSm 1) (es := semEvents (smA Wg)) ?_ ?_ (by omega) (.quit (v := v) hq) (by simp [deafBehind, semEvents]) ?_ (.inl ⟨by omega, by simp [cnt]⟩)
        · intro e he
          simp [semEvents] at he
          rcases he with rfl | rfl | rfl | rfl
          · exact .inl rfl
          · exact bk_cell _ _ rfl
          · exact bk_cell _ _ rfl
          · exact .inr (.inl rfl)
        · intro jx e he
          match jx, he with
          | 0, he => simp [semEvents] at he; subst he; exact .inl rfl
          | 1, _ => exact .inr (by simp [deafBehind, semEvents])
          | 2, _ => exact .inr (by simp [deafBehind, semEvents])
          | 3, he => simp [semEvents] at he; subst he; exact .inl rfl
          | jx + 4, he => simp [semEvents] at he
        · intro tag' hr hw
          have hnb := hw hmw hrun'
          have e3 : kt tag' = .w3 := by
            rcases hr with rfl | ⟨_, rfl⟩
            · cases tag' with
              | wt c => cases c <;> first | rfl | exact hW3.elim | exact absurd rfl hnb
              | st _ _ => exact hW3.elim
              | rv _ => exact hW3.elim
              | rp _ => exact hW3.elim
            · rfl
          rw [e3]
          simp only [if_true]
          exact .sema fun a ha => by
            by_cases e : a = i
            · subst e; rw [upd_same]
            · rw [upd_ne D _ e]; exact hoth a ha e
      · obtain ⟨g', w', es, hgo, ⟨rfl, rfl⟩, hg'⟩ := hstep w (RW.refl w)
        exact idle hgo (.d4 (v := v) hg') rfl
    | quit h =>
      cases m with
      | zero => rw [h.1] at hrun; cases hrun
      | succ q' =>
        rcases h with ⟨hf, _⟩ | ⟨_, g', es, hmute, hstep, hq⟩
        · rw [hf] at hrun; cases hrun
        · have hbk : ∀ e ∈ es, Bk Wg e := fun e he => bk_of_mute (hmute e he)
          have hno : ∀ jx e, es[jx]? = some e → (MemAct.ofEvent e).touch? = none ∨ 0 < deafBehind dd (es.extract 0 jx) := fun jx e he => .inl (touch_mute (hmute e (Array.mem_of_getElem? he)))
          exact book (hstep w) (.refl Wg w) hwg hbk hno (by omega) (.quit (v := v) hq) rfl (by have := hmode.same (i := i) q' (deafBehind dd es); rwa [hst] at this) (.inr ⟨rfl, rfl⟩)
end
end Go.Ph

namespace Go.Ph
open Go Go.Conc Go.ConcN
open Go.ConcR (KK wgBlock WgAt stA smA rd wr mk Payload Aside2 DC0 Bk g_of_ofEvents bk_of_mute ofEvent_loc_mark loc_of_ofEvent ofEvent_cell ofEvent_mk)
open Go.Br (ShunOf)
set_option linter.unusedVariables false
set_option linter.unusedSimpArgs false
set_option linter.unusedSectionVars false

section
variable (P : Program) (Wg : Nat) (Sh : Nat → Bool) (Fin : Goroutine → World → Prop)
/-- The phase is over. -/
def Goal (m : Machine) (t : Trace) : Prop := ∃ gs w sl q a, m = crowd gs w sl ∧ gs[0]? = some a ∧ Leavers P t gs q ∧ Past (fun l => ShunOf Sh l ∨ ShN Wg l) w.heap.size t ∧ Fin a w
end

section
variable {P : Program} {ty : TypeId} {Wg : Nat} {rel : TypeId} [Payload] {Sh : Nat → Bool} {z : Value} {Fin An : Goroutine → World → Prop} {V : Nat → List Value} {n W m0 : Nat}
  {ks : List Kid} {gs : Array Goroutine} {w w' : World} {sl : Option (Nat × Nat)} {t : Trace} {X X' : Nat → WX} {D D' : Nat → WD} {q : Nat → Nat} {tag tag' : Tg} {f0 f' d0 : Nat} {a : Goroutine}

/-- A step of the starter's that goes on. -/
theorem callerGo (hne : ty ≠ rel) (ha : gs[0]? = some a) (hcom : Com P ty Wg rel Sh m0 ks gs w t X D q d0) {a' : Goroutine} {es : Array Event}
    (hgo : stepG P true a w = .go a' w' es) (hw : WOk ty Wg rel ks w w') (hch : ∀ (i : Nat) (k : Kid), ks[i]? = some k → w'.heap[k.c]? = w.heap[k.c]?)
    (hok : ∀ op ∈ MemOp.ofEvents 0 a.frame.fn a.frame.place es, Ok0 (ShunOf Sh) (ShN Wg) ks.length (RdOf rel ks w') w'.heap.size op) (hnr : ∀ e ∈ es, e.loc ≠ .mark (.release (stA Wg)))
    (hcs' : CS P ty Wg rel Sh z Fin An V ks tag' f' (deafBehind d0 es) a' w') (hg' : GOk ty Wg n V ks X D w' tag')
    (hlt : pz n W (Vc ks.length D) tag' < pz n W (Vc ks.length D) tag ∨ (pz n W (Vc ks.length D) tag' = pz n W (Vc ks.length D) tag ∧ f' < f0)) :
    Leads P ty Wg rel Sh z Fin An V n W m0 (pz n W (Vc ks.length D) tag + Xsum ks.length X + Ssum ks.length D, f0 + 2 * Fsum ks.length D + 2 * sumTo m0 q) (crowd gs w sl) t 0 := by
  have hp := hcom.pos
  have hT := runT_crowd_go (P := P) (sl := sl) (i := 0) ha (by simpa using hgo)
  refine ⟨_, _, (pz n W (Vc ks.length D) tag' + Xsum ks.length X + Ssum ks.length D, f' + 2 * Fsum ks.length D + 2 * sumTo m0 q), hT, ?_, _, w', sl, ks, X, D, q, tag', f', _, a', rfl, get_map_set_same _ _ _ (by rw [hcom.size]; omega), hcs', hcom.step0 hne hw hch hok (norel_of hnr), hg', rfl⟩
  rcases hlt with h | ⟨h1, h2⟩
  · exact Prod.Lex.left _ _ (by omega)
  · rw [h1]; exact Prod.Lex.right _ (by omega)

/-- .. by the library's bookkeeping, in Wait. -/
theorem bookC (hne : ty ≠ rel) {c c' : CTag} (ha : gs[0]? = some a) (hcom : Com P ty Wg rel Sh m0 ks gs w t X D q d0) (hg : GOk ty Wg n V ks X D w (.wt c)) {a' : Goroutine} {es : Array Event} {st' sm' : Int}
    (hgo : stepG P true a w = .go a' w' es) (hA : Aside Wg w w') (hwg' : WgAt ty Wg w' st' sm') (hbk : ∀ e ∈ es, Bk Wg e)
    (hcs' : CS P ty Wg rel Sh z Fin An V ks (.wt c') f' (deafBehind d0 es) a' w') (hm : ConcN.Mode n D c' st' sm')
    (hlt : ConcN.phi n (Vc ks.length D) c' < ConcN.phi n (Vc ks.length D) c ∨ (ConcN.phi n (Vc ks.length D) c' = ConcN.phi n (Vc ks.length D) c ∧ f' < f0)) :
    Leads P ty Wg rel Sh z Fin An V n W m0 (pz n W (Vc ks.length D) (.wt c) + Xsum ks.length X + Ssum ks.length D, f0 + 2 * Fsum ks.length D + 2 * sumTo m0 q) (crowd gs w sl) t 0 := by
  have hl' : WgLive ty Wg w' := ⟨_, _, hwg'⟩
  have hwl : Wg < w'.heap.size := (Array.getElem?_eq_some_iff.1 (show w'.heap[Wg]? = _ from hwg')).1
  exact callerGo hne ha hcom hgo (WOk.of_wg hne hA hcom.live hl' hcom.capWg) (fun i k hk => hA.block _ (by
    intro e
    obtain ⟨_, _, _, _, _, _, h⟩ := hcom.isChan hk
    obtain ⟨st, sm, hl⟩ := hcom.live
    have hl : w.heap[Wg]? = some (wgBlock ty st sm) := hl
    rw [e, hl] at h; cases h)) (ok0_of_bk hwl hbk) (bk_norel hbk) hcs' ⟨hg.1, hg.2.1, st', sm', hwg', hm⟩ hlt

/-- .. idle, in Wait. -/
theorem idleQ (hne : ty ≠ rel) {c : CTag} (ha : gs[0]? = some a) (hcom : Com P ty Wg rel Sh m0 ks gs w t X D q d0) (hg : GOk ty Wg n V ks X D w (.wt c)) {a' : Goroutine} {es : Array Event}
    (hgo : stepG P true a w = .go a' w' es) (hD : DQ Wg w w' es) (hcs' : CS P ty Wg rel Sh z Fin An V ks (.wt c) f' d0 a' w') (hf : f' < f0) :
    Leads P ty Wg rel Sh z Fin An V n W m0 (pz n W (Vc ks.length D) (.wt c) + Xsum ks.length X + Ssum ks.length D, f0 + 2 * Fsum ks.length D + 2 * sumTo m0 q) (crowd gs w sl) t 0 := by
  obtain ⟨rfl, hev⟩ := hD
  have hd : deafBehind d0 es = d0 := deafBehind_idle (fun e he => ⟨(evQ_facts (hev e he)).1, (evQ_facts (hev e he)).2.1⟩) d0
  exact callerGo hne ha hcom hgo (WOk.refl w') (fun _ _ _ => rfl) (ok0_of_evQ hcom.wgLt hev) (fun e he => (evQ_facts (hev e he)).2.2) (by rw [hd]; exact hcs') hg (.inr ⟨rfl, hf⟩)

/-- .. idle, ahead of Wait. -/
theorem idleD (hne : ty ≠ rel) {kp : Nat → Prop} (hkp : ∀ b, keptBy ks b → kp b) (ha : gs[0]? = some a) (hcom : Com P ty Wg rel Sh m0 ks gs w t X D q d0) {a' : Goroutine} {es : Array Event}
    (hgo : stepG P true a w = .go a' w' es) (hD : DC ty Wg rel Sh kp w w' es) (hcs' : CS P ty Wg rel Sh z Fin An V ks tag f' d0 a' w') (hg' : GOk ty Wg n V ks X D w' tag) (hf : f' < f0) :
    Leads P ty Wg rel Sh z Fin An V n W m0 (pz n W (Vc ks.length D) tag + Xsum ks.length X + Ssum ks.length D, f0 + 2 * Fsum ks.length D + 2 * sumTo m0 q) (crowd gs w sl) t 0 := by
  have hd : deafBehind d0 es = d0 := deafBehind_idle (fun e he => ⟨(evC_facts (Wg := Wg) (hD.evs e he)).1, (evC_facts (hD.evs e he)).2.1⟩) d0
  exact callerGo hne ha hcom hgo (WOk.of_dc hD hkp) (fun i k hk => hD.keep _ (.inl (hkp _ ⟨k, mem_of_get hk, .inl rfl⟩))) (ok0_of_evC hkp (hD.live hcom.live) hD.evs) (fun e he => (evC_facts (hD.evs e he)).2.2) (by rw [hd]; exact hcs') hg' (.inr ⟨rfl, hf⟩)

theorem lists_get (V : Nat → List Value) : ∀ (ks : List Kid) (i p c : Nat) (l : List Value), (listsOf V i ks)[p]? = some (c, l) → ∃ k : Kid, ks[p]? = some k ∧ k.c = c ∧ l = V (i + p)
  | [], _, p, _, _, h => by simp [listsOf] at h
  | k :: ks, i, 0, c, l, h => by
    simp only [listsOf, List.getElem?_cons_zero, Option.some.injEq, Prod.mk.injEq] at h
    exact ⟨k, rfl, h.1, h.2.symm⟩
  | k :: ks, i, p + 1, c, l, h => by
    simp only [listsOf, List.getElem?_cons_succ] at h
    obtain ⟨k', h1, h2, h3⟩ := lists_get V ks (i + 1) p c l h
    exact ⟨k', by simpa using h1, h2, by rw [h3]; congr 1; omega⟩
theorem lists_len (V : Nat → List Value) : ∀ (ks : List Kid) (i : Nat), (listsOf V i ks).length = ks.length
  | [], _ => rfl
  | _ :: ks, i => by simp [listsOf, lists_len V ks (i + 1)]

theorem vc_all {j : Nat} (h : ∀ i, i < j → (D i).stage = 7) : Vc j D = j := by
  induction j with
  | zero => rfl
  | succ j ih =>
    have := ih fun i hi => h i (by omega)
    simp only [Vc, sumTo] at this ⊢
    rw [this]
    simp [cnt, h j (by omega)]

/-- The go statement. -/
theorem goStop (hne : ty ≠ rel) (hW : ∀ i, i < n → 20 * (V i).length + 20 ≤ W) {r : Nat} (ha : gs[0]? = some a) (hcom : Com P ty Wg rel Sh m0 ks gs w t X D q 0) (hg : GOk ty Wg n V ks X D w (.st r 2))
    (hst : G2 P ty Wg rel Sh z An V r ks a w) :
    Leads P ty Wg rel Sh z Fin An V n W m0 (pz n W (Vc ks.length D) (.st r 2) + Xsum ks.length X + Ssum ks.length D, f0 + 2 * Fsum ks.length D + 2 * sumTo m0 q) (crowd gs w sl) t 0 := by
  have hp := hcom.pos
  obtain ⟨hrun, k, a', child, hsp, hchild, hko, ⟨m, hc⟩, hnext⟩ := hst
  have hT := runT_crowd_spawn (P := P) (sl := sl) (i := 0) ha (by simpa using hsp)
  rw [hcom.size] at hT
  have hcom' := hcom.spawn hne rfl (a' := a') (child := child) (m := m) (x := { g := 0, fn := a.frame.fn, pos := a.frame.place, act := .go (m0 + ks.length) }) (y := { g := m0 + ks.length, fn := child.frame.fn, pos := a.frame.place, act := .start }) ⟨rfl, rfl⟩ ⟨rfl, rfl⟩ hko hc
  have hln := hg.1
  have hlen : (ks ++ [k]).length = ks.length + 1 := by simp
  have hX1 : Xsum (ks.length + 1) (upd X ks.length ⟨V ks.length, 2⟩) = Xsum ks.length X + (20 * (V ks.length).length + 4) := by
    simp only [Xsum, sumTo, upd_same, wtX]
    rw [sumTo_congr (g := fun i => 20 * (X i).left.length + 2 * (X i).st) (fun i hi => by rw [upd_ne _ _ (by omega)])]
  have hS1 : Ssum (ks.length + 1) (upd D ks.length ⟨7, m, 0⟩) = Ssum ks.length D + 7 := by
    simp only [Ssum, sumTo, upd_same]
    rw [sumTo_congr (g := fun i => (D i).stage) (fun i hi => by rw [upd_ne _ _ (by omega)])]
  have hWb := hW ks.length (by omega)
  have hst7 : ∀ i, i < ks.length → (D i).stage = 7 := fun i hi => by
    obtain ⟨k', hk'⟩ := get_of_lt hi
    obtain ⟨_, _, hs, _⟩ := hcom.kid i k' hk'
    exact ((ws_stage hs).1 (by have := (hg.2 i hi).2; omega)).1
  have hgX : ∀ i, i < ks.length + 1 → (upd X ks.length ⟨V ks.length, 2⟩ i).left = V i ∧ 1 ≤ (upd X ks.length ⟨V ks.length, 2⟩ i).st := fun i hi => by
    by_cases e : i = ks.length
    · subst e; rw [upd_same]; simp
    · rw [upd_ne _ _ e]; exact hg.2 i (by omega)
  have fin : ∀ {tag' f'}, CS P ty Wg rel Sh z Fin An V (ks ++ [k]) tag' f' 0 a' w → GOk ty Wg n V (ks ++ [k]) (upd X ks.length ⟨V ks.length, 2⟩) (upd D ks.length ⟨7, m, 0⟩) w tag' → pz n W (Vc (ks.length + 1) (upd D ks.length ⟨7, m, 0⟩)) tag' + (20 * (V ks.length).length + 4) + 7 < pz n W (Vc ks.length D) (.st r 2) →
      Leads P ty Wg rel Sh z Fin An V n W m0 (pz n W (Vc ks.length D) (.st r 2) + Xsum ks.length X + Ssum ks.length D, f0 + 2 * Fsum ks.length D + 2 * sumTo m0 q) (crowd gs w sl) t 0 := by
    intro tag' f' hcs' hg' hlt
    refine ⟨_, _, (pz n W (Vc (ks ++ [k]).length (upd D ks.length ⟨7, m, 0⟩)) tag' + Xsum (ks ++ [k]).length (upd X ks.length ⟨V ks.length, 2⟩) + Ssum (ks ++ [k]).length (upd D ks.length ⟨7, m, 0⟩), f' + 2 * Fsum (ks ++ [k]).length (upd D ks.length ⟨7, m, 0⟩) + 2 * sumTo m0 q), hT, ?_, (gs.setIfInBounds 0 a').push child, w, sl, ks ++ [k], _, _, q, tag', f', 0, a', rfl, ?_, hcs', ?_, hg', rfl⟩
    · rw [hlen, hX1, hS1]
      exact Prod.Lex.left _ _ (by omega)
    · rw [Array.getElem?_push_lt (by simp [hcom.size]; omega), ← Array.getElem?_eq_getElem, get_set_same _ (by rw [hcom.size]; omega)]
    · have e : ((MemOp.ofEvents 0 a.frame.fn a.frame.place #[]).push { g := 0, fn := a.frame.fn, pos := a.frame.place, act := .go (m0 + ks.length) }).push { g := m0 + ks.length, fn := child.frame.fn, pos := a.frame.place, act := .start } = #[{ g := 0, fn := a.frame.fn, pos := a.frame.place, act := .go (m0 + ks.length) }, { g := m0 + ks.length, fn := child.frame.fn, pos := a.frame.place, act := .start }] := by simp [MemOp.ofEvents]
      rw [e]
      exact hcom'
  cases r with
  | zero =>
    obtain ⟨hwg, hrcv⟩ := hnext
    have hne0 : listsOf V 0 (ks ++ [k]) ≠ [] := by
      intro e
      have := lists_len V (ks ++ [k]) 0
      rw [e, hlen] at this; simp at this
    obtain ⟨⟨c, l⟩, ls, hl⟩ : ∃ x ls, listsOf V 0 (ks ++ [k]) = x :: ls := by
      cases h : listsOf V 0 (ks ++ [k]) with
      | nil => exact absurd h hne0
      | cons x ls => exact ⟨x, ls, rfl⟩
    rw [hl] at hrcv
    obtain ⟨m2, hG⟩ := (rcvS_cons P ty Wg rel Sh z An (ks ++ [k]) c l ls _ _).1 hrcv
    have hllen : ((c, l) :: ls).length = ks.length + 1 := by rw [← hl, lists_len, hlen]
    refine fin (.rv hG) ⟨by rw [hlen]; omega, ⟨0, by rw [hllen, hlen]; omega, fun i hi => by omega, fun p c' l' hp' => ?_⟩, (ks.length + 1 : Nat) * KK, 0, ?_, ?_⟩ ?_
    · rw [← hl] at hp'
      obtain ⟨k', h1, h2, h3⟩ := lists_get V _ _ _ _ _ hp'
      refine ⟨k', by rw [Nat.zero_add]; exact h1, h2, ?_⟩
      have := get_lt h1
      rw [hlen] at this
      rw [h3]
      exact (hgX (0 + p) (by omega)).1
    · rw [hlen] at hwg; simpa using hwg
    · have hn1 : n = ks.length + 1 := by omega
      have h7 : ∀ i, i < n → (upd D ks.length ⟨7, m, 0⟩ i).stage = 7 := fun i hi => by
        by_cases e : i = ks.length
        · subst e; rw [upd_same]
        · rw [upd_ne _ _ e]; exact hst7 i (by omega)
      have hv : Vc n (upd D ks.length ⟨7, m, 0⟩) = n := vc_all h7
      have := ConcN.Mode.opn (j := n) (D := upd D ks.length ⟨7, m, 0⟩) (tag := .kd) trivial (fun i hi => .inl (h7 i hi)) (by simp)
      rw [hv] at this
      rw [← hn1]
      simpa [pend] using this
    · simp only [pz, hllen, Nat.zero_add, Nat.one_mul]
      omega
  | succ r =>
    obtain ⟨m2, hG⟩ := (startS_succ P ty Wg rel Sh z An V r (ks ++ [k]) _ _).1 hnext
    refine fin (.s5 hG) ⟨by rw [hlen]; omega, fun i hi => hgX i (by rw [hlen] at hi; exact hi)⟩ ?_
    simp only [pz]
    have : (r + 1 + 1) * W = (r + 1) * W + W := by rw [Nat.add_mul (r + 1) 1 W, Nat.one_mul]
    omega
end
end Go.Ph

namespace Go.Ph
open Go Go.Conc Go.ConcN
open Go.ConcR (KK wgBlock WgAt stA smA rd wr mk Payload Aside2 DC0 Bk g_of_ofEvents bk_of_mute ofEvent_loc_mark loc_of_ofEvent ofEvent_cell ofEvent_mk)
open Go.Br (ShunOf)
set_option linter.unusedVariables false
set_option linter.unusedSimpArgs false
set_option linter.unusedSectionVars false

section
variable {P : Program} {ty : TypeId} {Wg : Nat} {rel : TypeId} [Payload] {Sh : Nat → Bool} {z : Value} {Fin An : Goroutine → World → Prop} {V : Nat → List Value} {n W m0 : Nat}
  {ks : List Kid} {gs : Array Goroutine} {w w' : World} {sl : Option (Nat × Nat)} {t : Trace} {X X' : Nat → WX} {D D' : Nat → WD} {q : Nat → Nat} {tag tag' : Tg} {f0 f' d0 : Nat} {a : Goroutine}

/-- Who offers a send at the channel. -/
theorem senders (hAr : ∀ g w, An g w → g.status = .running) (ha : gs[0]? = some a) (hcs : CS P ty Wg rel Sh z Fin An V ks tag f0 d0 a w) (hcom : Com P ty Wg rel Sh m0 ks gs w t X D q d0) {i : Nat} {k : Kid} (hk : ks[i]? = some k) :
    ∀ (j : Nat) (x : Goroutine), (gs.setIfInBounds 0 ph)[j]? = some x → offersAt x k.c true ≠ [] → j = m0 + i ∧ (X i).st = 1 := by
  intro j x hx ho
  rcases getElem?_stand gs 0 j x hx with ⟨_, rfl⟩ | ⟨hj, hx'⟩
  · exact absurd (offersAt_ph _ _) ho
  · obtain ⟨i', k', rfl, hk', hc, hst⟩ := (offers_old hcom hx' hj k.c).2 ho
    have := hcom.dist i' i k' k hk' hk hc
    subst this
    exact ⟨rfl, hst⟩

/-- The starter at a receive. -/
theorem recvStop (hne : ty ≠ rel) (hAr : ∀ g w, An g w → g.status = .running) (ha : gs[0]? = some a) (hcom : Com P ty Wg rel Sh m0 ks gs w t X D q 0) {c : Nat} {l : List Value} {ls : List (Nat × List Value)}
    (hcs : CS P ty Wg rel Sh z Fin An V ks (.rv ((c, l) :: ls)) f0 0 a w) (hg : GOk ty Wg n V ks X D w (.rv ((c, l) :: ls)))
    (hstop : ∀ w₁, RR ty Wg w w₁ → RStop P ty Wg rel Sh z An ks c l ls a w₁) :
    Leads P ty Wg rel Sh z Fin An V n W m0 (pz n W (Vc ks.length D) (.rv ((c, l) :: ls)) + Xsum ks.length X + Ssum ks.length D, f0 + 2 * Fsum ks.length D + 2 * sumTo m0 q) (crowd gs w sl) t 0 := by
  have hp := hcom.pos
  have hst := hstop w (RR.refl w)
  obtain ⟨hlen, ⟨i0, hrv⟩, st, sm, hwg, hmd⟩ := hg
  obtain ⟨k, hk, rfl, hleft⟩ := hrv.2.2 0 c l rfl
  rw [Nat.add_zero] at hk hleft
  have hil := get_lt hk
  have hgo : stepG P (0 == 0) a w = .comm (core a) #[rcase k.c z] true (.recv true) w #[] := hst.comm
  obtain ⟨y, hy, hs, ⟨s, r, tm, hch⟩, _⟩ := hcom.kid i0 k hk
  have hsend := senders hAr ha hcs hcom hk
  generalize hXi : X i0 = x at hs hch hleft
  generalize hDi : D i0 = d at hs
  have nil_of : (X i0).st ≠ 1 → partners (gs.setIfInBounds 0 ph) k.c true = [] := fun hne1 => partners_nil fun j g' hg' => by
    by_cases e : offersAt g' k.c true = []
    · exact e
    · exact absurd (hsend j g' hg' e).2 hne1
  have closed : ∀ {s : Nat}, x = ⟨[], 0⟩ → Leads P ty Wg rel Sh z Fin An V n W m0 (pz n W (Vc ks.length D) (.rv ((k.c, l) :: ls)) + Xsum ks.length X + Ssum ks.length D, f0 + 2 * Fsum ks.length D + 2 * sumTo m0 q) (crowd gs w sl) t 0 := by
    rintro _ rfl
    -- found closed
    have hl0 : l = [] := hleft.symm
    subst hl0
    have hch : w.heap[k.c]? = some (.chan 0 #[] true s r tm) := hch
    have hT := crowd_recv_closed (sl := sl) ha hgo hch (nil_of (by rw [hXi]; simp))
    have hrcv : RcvS P ty Wg rel Sh z An ks ls (Conc.served (core a) (.tuple #[z, .bool false])) w := hst.2.2 w (RR.refl w) _ rfl
    have hcom' := hcom.only0 (gs' := gs.setIfInBounds 0 ((core a).finishComm P #[rcase k.c z] (.recv true) 0 z false)) (u := MemOp.ofEvents 0 a.frame.fn a.frame.place #[] ++ #[{ g := 0, fn := (core a).frame.fn, pos := (core a).frame.place, act := .recvClosed k.c }])
      (by simp) (fun j hj => get_set_ne _ (Ne.symm hj)) (by
        intro op hop
        simp only [MemOp.ofEvents, Array.isEmpty_empty, if_true, Array.empty_append, List.mem_toArray, List.mem_cons, List.not_mem_nil, or_false] at hop
        subst hop; rfl) (by
        intro op hop
        simp only [MemOp.ofEvents, Array.isEmpty_empty, if_true, Array.empty_append, List.mem_toArray, List.mem_cons, List.not_mem_nil, or_false] at hop
        subst hop
        exact ⟨rfl, (hcom.isChan hk).lt, by simp, by simp, by simp⟩)
    have fin : ∀ {tag' f'}, CS P ty Wg rel Sh z Fin An V ks tag' f' 0 (Conc.served (core a) (.tuple #[z, .bool false])) w → GOk ty Wg n V ks X D w tag' → pz n W (Vc ks.length D) tag' < pz n W (Vc ks.length D) (.rv ((k.c, []) :: ls)) →
        Leads P ty Wg rel Sh z Fin An V n W m0 (pz n W (Vc ks.length D) (.rv ((k.c, []) :: ls)) + Xsum ks.length X + Ssum ks.length D, f0 + 2 * Fsum ks.length D + 2 * sumTo m0 q) (crowd gs w sl) t 0 := by
      intro tag' f' hcs' hg' hlt
      refine ⟨_, _, (pz n W (Vc ks.length D) tag' + Xsum ks.length X + Ssum ks.length D, f' + 2 * Fsum ks.length D + 2 * sumTo m0 q), hT, Prod.Lex.left _ _ (by omega), _, w, sl, ks, X, D, q, tag', f', 0, _, rfl, get_set_same _ (by rw [hcom.size]; omega), hcs', hcom', hg', rfl⟩
    cases ls with
    | nil =>
      obtain ⟨m, hG⟩ := hrcv
      have hi1 : i0 + 1 = ks.length := by simpa using hrv.1
      refine fin (.kd hG) ⟨hlen, fun i hi => ?_, st, sm, hwg, hmd⟩ ?_
      · rcases Nat.lt_or_ge i i0 with h1 | h1
        · exact hrv.2.1 i h1
        · obtain rfl : i = i0 := by omega
          rw [hXi]
      · simp only [pz, ConcN.phi, List.length_cons, List.length_nil]; omega
    | cons cl ls2 =>
      obtain ⟨c2, l2⟩ := cl
      obtain ⟨m, hG⟩ := (rcvS_cons P ty Wg rel Sh z An ks c2 l2 ls2 _ _).1 hrcv
      refine fin (.rv hG) ⟨hlen, ⟨i0 + 1, by have := hrv.1; simp only [List.length_cons] at this ⊢; omega, fun i hi => ?_, fun p c' l' hl' => ?_⟩, st, sm, hwg, hmd⟩ ?_
      · rcases Nat.lt_or_ge i i0 with h1 | h1
        · exact hrv.2.1 i h1
        · obtain rfl : i = i0 := by omega
          rw [hXi]
      · obtain ⟨k', h1, h2, h3⟩ := hrv.2.2 (p + 1) c' l' (by simpa using hl')
        rw [show i0 + (p + 1) = i0 + 1 + p by omega] at h1 h3
        exact ⟨k', h1, h2, h3⟩
      · simp only [pz, List.length_cons]; omega
  cases hs with
  | r0 h => exact closed (s := 0) rfl
  | tail h6 h => exact closed (s := 0) rfl
  | walk h =>
    -- on its way: the starter waits
    rename_i vs f
    have hch : w.heap[k.c]? = some (.chan 0 #[] false s r tm) := hch
    have hT := crowd_waits (sl := sl) ha hgo (by
      intro cc hcc
      simp only [List.mem_toArray, List.mem_singleton] at hcc
      subst hcc
      exact ways_recv_none hch (nil_of (by rw [hXi]; simp)))
    have hcom' := hcom.only0 (gs' := gs.setIfInBounds 0 (parked (core a) #[rcase k.c z] (.recv true))) (u := MemOp.ofEvents 0 a.frame.fn a.frame.place #[]) (by simp) (fun j hj => get_set_ne _ (Ne.symm hj)) (by intro op hop; simp [MemOp.ofEvents] at hop) (by intro op hop; simp [MemOp.ofEvents] at hop)
    refine ⟨_, _, (pz n W (Vc ks.length D) (.rp ((k.c, l) :: ls)) + Xsum ks.length X + Ssum ks.length D, 0 + 2 * Fsum ks.length D + 2 * sumTo m0 q), hT, Prod.Lex.left _ _ (by simp only [pz]; omega), _, w, sl, ks, X, D, q, .rp ((k.c, l) :: ls), 0, 0, _, rfl, get_set_same _ (by rw [hcom.size]; omega), .rp hstop, hcom', ⟨hlen, ⟨i0, hrv, by rw [hXi], by simp⟩, st, sm, hwg, hmd⟩, rfl⟩
  | park h =>
    -- it is parked: they meet
    rename_i v z' vs g₂
    have hl : l = v :: vs := hleft.symm
    subst hl
    have hch : w.heap[k.c]? = some (.chan 0 #[] false s r tm) := hch
    have hps : partners (gs.setIfInBounds 0 ph) k.c true = [(m0 + i0, 0)] := by
      rw [partners_one (j := m0 + i0) (g := parked g₂ #[scase k.c v z'] .send) (by rw [get_set_ne _ (by omega)]; exact hy) (fun j x hj hx => ?_), offersAt_parked_send]
      · simp
      · by_cases e : offersAt x k.c true = []
        · exact e
        · exact absurd (hsend j x hx e).1 hj
    have hT := crowd_recv_meets (sl := sl) ha hgo hch (show m0 + i0 ≠ 0 by omega) hy hps
    have hA := aside_setChan w k.c 0 (s + 1) (r + 1) #[] false tm
    have hch' := setChan_at (s' := s + 1) (r' := r + 1) (buf' := #[]) (cl' := false) (tm' := tm) (cap' := 0) hch
    have hic : IsChan w k.c := ⟨_, _, _, _, _, _, hch⟩
    have hic' : IsChan (w.setChan k.c 0 #[] false (s + 1) (r + 1) tm) k.c := ⟨_, _, _, _, _, _, hch'⟩
    have hw : WOk ty Wg rel ks w (w.setChan k.c 0 #[] false (s + 1) (r + 1) tm) := WOk.of_chan hA hic hic' (hcom.capChan hk)
    obtain ⟨m, hG⟩ := h _ (hw.rk (mem_of_get hk))
    have hrcv : RcvS P ty Wg rel Sh z An ks ((k.c, vs) :: ls) (Conc.served (core a) (.tuple #[v, .bool true])) (w.setChan k.c 0 #[] false (s + 1) (r + 1) tm) := hst.2.2 _ (rr_chan (hcom.lo k (mem_of_get hk)) hA hic hic') _ rfl
    obtain ⟨m2, hG2⟩ := (rcvS_cons P ty Wg rel Sh z An ks k.c vs ls _ _).1 hrcv
    have hcom' := hcom.comm hk (gs' := ((gs.setIfInBounds (m0 + i0) (g₂.finishComm P #[scase k.c v z'] .send 0 undef false)).setIfInBounds 0 ((core a).finishComm P #[rcase k.c z] (.recv true) 0 v true)))
      (u := MemOp.ofEvents 0 a.frame.fn a.frame.place #[] ++ #[{ g := m0 + i0, fn := g₂.frame.fn, pos := g₂.frame.place, act := .send k.c s }, { g := 0, fn := (core a).frame.fn, pos := (core a).frame.place, act := .recv k.c r 0 },
        { g := m0 + i0, fn := g₂.frame.fn, pos := g₂.frame.place, act := .sendDone k.c s }, { g := 0, fn := (core a).frame.fn, pos := (core a).frame.place, act := .recvDone k.c r }])
      (x' := ⟨vs, 2⟩) (f' := m) (by simp) (by rw [get_set_ne _ (by omega)]; exact get_set_same _ (by rw [hcom.size]; omega)) (fun j h0 h1 => by rw [get_set_ne _ (Ne.symm h0), get_set_ne _ (Ne.symm h1)]) hw (fun i' k' hk' => by
        by_cases e : i' = i0
        · subst e
          rw [hk] at hk'; cases hk'
          rw [upd_same]
          exact ⟨_, _, _, hch'⟩
        · rw [upd_ne _ _ e, hA.block _ (fun e' => e (hcom.dist i' i0 k' k hk' hk e'))]
          obtain ⟨_, _, _, hc, _⟩ := hcom.kid i' k' hk'
          exact hc) (.walk hG) (by rw [hDi]) (by
        intro op hop
        simp only [MemOp.ofEvents, Array.isEmpty_empty, if_true, Array.empty_append, List.mem_toArray, List.mem_cons, List.not_mem_nil, or_false] at hop
        rcases hop with rfl | rfl | rfl | rfl
        · exact .inr rfl
        · exact .inl rfl
        · exact .inr rfl
        · exact .inl rfl) (by
        intro op hop
        have hkcl' : k.c < (w.setChan k.c 0 #[] false (s + 1) (r + 1) tm).heap.size := hic'.lt
        simp only [MemOp.ofEvents, Array.isEmpty_empty, if_true, Array.empty_append, List.mem_toArray, List.mem_cons, List.not_mem_nil, or_false] at hop
        rcases hop with rfl | rfl | rfl | rfl <;> exact ⟨rfl, hkcl', by simp, by simp, by simp⟩)
    obtain ⟨hS, hV⟩ := sums hil hDi (f' := m)
    have hXu := Xsum_upd X ⟨vs, 2⟩ hil
    have hXs : wtX (X i0) = 20 * (vs.length + 1) + 2 := by rw [hXi]; simp [wtX]
    have hwv : wtX ⟨vs, 2⟩ = 20 * vs.length + 4 := by simp [wtX]
    rw [hXs, hwv] at hXu
    refine ⟨_, _, (pz n W (Vc ks.length (upd D i0 ⟨7, m, 0⟩)) (.rv ((k.c, vs) :: ls)) + Xsum ks.length (upd X i0 ⟨vs, 2⟩) + Ssum ks.length (upd D i0 ⟨7, m, 0⟩), m2 + 2 * Fsum ks.length (upd D i0 ⟨7, m, 0⟩) + 2 * sumTo m0 q), hT, ?_, _, _, sl, ks, _, _, q, .rv ((k.c, vs) :: ls), m2, 0, _, rfl, ?_, .rv hG2, hcom', ?_, rfl⟩
    · refine Prod.Lex.left _ _ ?_
      rw [hS]
      simp only [pz, List.length_cons]
      omega
    · rw [get_set_same _ (by simp [hcom.size]; omega)]; rfl
    · refine ⟨hlen, ⟨i0, ⟨by simpa using hrv.1, fun j hj => by rw [upd_ne _ _ (by omega)]; exact hrv.2.1 j hj, fun p c l hl => ?_⟩⟩, st, sm, hwg.of_block (wg_of_aside (st := 0) (sm := 0) hA hic hcom.live), ?_⟩
      · cases p with
        | zero =>
          simp only [List.getElem?_cons_zero, Option.some.injEq, Prod.mk.injEq] at hl
          obtain ⟨rfl, rfl⟩ := hl
          exact ⟨k, by simpa using hk, rfl, by rw [Nat.add_zero, upd_same]⟩
        | succ p =>
          obtain ⟨k', h1, h2, h3⟩ := hrv.2.2 (p + 1) c l (by simpa using hl)
          exact ⟨k', h1, h2, by rw [upd_ne _ _ (by omega)]; exact h3⟩
      · refine hmd.congr fun j hj => ?_
        by_cases e : j = i0
        · subst e; rw [upd_same, hDi]
        · rw [upd_ne _ _ e]

/-- The last step of the phase. -/
def Finishes (P : Program) (Wg : Nat) (Sh : Nat → Bool) (Fin : Goroutine → World → Prop) (m : Machine) (t : Trace) : Prop := ∃ m₁ ops, runT P m 0 = (.next m₁, ops) ∧ Goal P Wg Sh Fin m₁ (t ++ ops)

theorem bk_dis : ∀ e ∈ #[mk .disable], Bk Wg e := by intro e he; simp at he; subst he; exact .inl rfl
theorem bk_en : ∀ e ∈ #[mk .enable], Bk Wg e := by intro e he; simp at he; subst he; exact .inr (.inl rfl)
theorem bk_rd : ∀ e ∈ #[rd (stA Wg)], Bk Wg e := by intro e he; simp at he; subst he; exact bk_cell _ _ rfl
theorem bk_rw : ∀ e ∈ #[rd (stA Wg), wr (stA Wg)], Bk Wg e := by intro e he; simp at he; rcases he with rfl | rfl <;> exact bk_cell _ _ rfl
theorem bk_sem : ∀ e ∈ semEvents (smA Wg), Bk Wg e := by
  intro e he
  simp [semEvents] at he
  rcases he with rfl | rfl | rfl | rfl
  · exact .inl rfl
  · exact bk_cell _ _ rfl
  · exact bk_cell _ _ rfl
  · exact .inr (.inl rfl)

/-- 'acquire': all is known. -/
theorem acqStop (hne : ty ≠ rel) (ha : gs[0]? = some a) (hcom : Com P ty Wg rel Sh m0 ks gs w t X D q 0) (hg : GOk ty Wg n V ks X D w (.wt .acq)) (hst : XAcq P ty Wg Fin a w) : Finishes P Wg Sh Fin (crowd gs w sl) t := by
  have hp := hcom.pos
  obtain ⟨hrun, a', hgo, hfin⟩ := hst
  obtain ⟨hlen, hX0, st, sm, hwg, hmd⟩ := hg
  obtain ⟨hq, rfl, rfl⟩ := hmd.fin_inv trivial
  have hT := runT_crowd_go (P := P) (sl := sl) (i := 0) ha (by simpa using hgo)
  have e1 : MemOp.ofEvents 0 a.frame.fn a.frame.place #[mk (.acquire (stA Wg))] = #[{ g := 0, fn := a.frame.fn, pos := a.frame.place, act := .mark (.acquire (stA Wg)) }] := by rw [ofEvents_eq]; simp [ofEvent_mk]
  have hcom' := hcom.step0 hne (a := a) (a' := a') (fn := a.frame.fn) (pos := a.frame.place) (es := #[mk (.acquire (stA Wg))]) (WOk.refl w) (fun _ _ _ => rfl) (by
      intro op hop
      rw [e1] at hop
      simp only [List.mem_toArray, List.mem_singleton] at hop
      subst hop
      exact ⟨hcom.wgLt, fun x hx => by simp [MemAct.touch?] at hx⟩) (by
      intro op hop
      rw [e1] at hop
      simp only [List.mem_toArray, List.mem_singleton] at hop
      subst hop
      simp)
  have hy : (t ++ #[({ g := 0, fn := a.frame.fn, pos := a.frame.place, act := .mark (.acquire (stA Wg)) } : MemOp)])[t.size]? = some { g := 0, fn := a.frame.fn, pos := a.frame.place, act := .mark (.acquire (stA Wg)) } := by simp
  refine ⟨_, _, hT, _, w, sl, fun i => if i < m0 then q i else (D (i - m0)).fuel, a', rfl, get_map_set_same _ _ _ (by rw [hcom.size]; omega), ⟨fun i g hi hgi => ?_, fun j hj => ?_⟩, ?_, hfin w (RC.refl w) hwg⟩
  · by_cases him : i < m0
    · have := hcom'.old i g hi him hgi
      simp only [him, if_true]; exact this
    · simp only [him, if_false]
      obtain ⟨i', rfl⟩ : ∃ i', i = m0 + i' := ⟨i - m0, by omega⟩
      have hil : i' < ks.length := by
        have := (Array.getElem?_eq_some_iff.1 hgi).1
        rw [hcom'.size] at this; omega
      obtain ⟨k, hk⟩ := get_of_lt hil
      obtain ⟨y, hy', hs, _, hd, _⟩ := hcom'.kid i' k hk
      rw [hgi] at hy'; cases hy'
      rw [hd, Nat.add_sub_cancel_left]
      have hst1 : (D i').stage = 1 := hq i' (by omega)
      generalize hXi : X i' = x at hs
      generalize hDi : D i' = d at hs hst1
      cases hs with
      | walk _ => cases hst1
      | park _ => cases hst1
      | r0 _ => cases hst1
      | tail _ h =>
        dsimp only at hst1
        subst hst1
        cases h
        assumption
  · exact hcom'.above j (by rw [← hcom'.size]; exact hj)
  · have hd0 : Deaf (t ++ MemOp.ofEvents 0 a.frame.fn a.frame.place #[mk (.acquire (stA Wg))]) 0 = 0 := by rw [hcom'.deaf0]; rfl
    refine hcom'.tr.done hcom'.norel hd0 (q := t.size) (by rw [e1, act?_of hy]) (by rw [e1]; simp [Trace.g?]) (by rw [e1]; exact ⟨0, by simp [Trace.g?], by rw [deaf_old (Nat.le_refl _)]; exact hcom.deaf0⟩) fun i hi => ?_
    obtain ⟨k, hk⟩ := get_of_lt hi
    obtain ⟨_, _, _, _, _, hr⟩ := hcom.kid i k hk
    obtain ⟨r, hr⟩ := hr (by rw [hq i (by omega)]; omega)
    exact ⟨r, hr.appOther g_of_ofEvents (by omega), lt_of_act? hr.act⟩

set_option maxHeartbeats 1600000 in
/-- The starter's step. -/
theorem stepCaller (hne : ty ≠ rel) (hn : n < 2147483648) (hW : ∀ i, i < n → 20 * (V i).length + 20 ≤ W) (hAr : ∀ g w, An g w → g.status = .running) (hAn : ∀ g w, An g w → ∃ m, Goes P true (RC ty Wg Wg) (DQ Wg) (XW1 P ty Wg Fin An) m g w)
    (ha : gs[0]? = some a) (hcs : CS P ty Wg rel Sh z Fin An V ks tag f0 d0 a w) (hcom : Com P ty Wg rel Sh m0 ks gs w t X D q d0) (hg : GOk ty Wg n V ks X D w tag) (hrun : a.status = .running) :
    Finishes P Wg Sh Fin (crowd gs w sl) t ∨ Leads P ty Wg rel Sh z Fin An V n W m0 (pz n W (Vc ks.length D) tag + Xsum ks.length X + Ssum ks.length D, f0 + 2 * Fsum ks.length D + 2 * sumTo m0 q) (crowd gs w sl) t 0 := by
  have hVj := Vc_le n D
  cases hcs with
  | s5 h =>
    rcases Goes.cases h with hstop | ⟨m', rfl, hstep⟩
    · obtain ⟨_, a', hgo, m₂, hk⟩ := hstop w (RS.refl w)
      exact .inr (callerGo hne ha hcom hgo (WOk.refl w) (fun _ _ _ => rfl) (ok0_of_bk hcom.wgLt bk_dis) (bk_norel bk_dis) (.s3 hk) hg (.inl (by simp only [pz]; omega)))
    · obtain ⟨a', w', es, hgo, hD, hG⟩ := hstep w (RS.refl w)
      exact .inr (idleD hne (fun _ h => h) ha hcom hgo hD (.s5 hG) hg (by omega))
  | s3 h =>
    rcases Goes.cases h with hstop | ⟨m', rfl, hstep⟩
    · obtain ⟨_, a', hgo, m₂, hk⟩ := hstop w (RS.refl w)
      exact .inr (callerGo hne ha hcom hgo (WOk.refl w) (fun _ _ _ => rfl) (ok0_of_bk hcom.wgLt bk_en) (bk_norel bk_en) (.s2 hk) hg (.inl (by simp only [pz]; omega)))
    · obtain ⟨a', w', es, hgo, hD, hG⟩ := hstep w (RS.refl w)
      exact .inr (idleD hne (fun _ h => h) ha hcom hgo hD (.s3 hG) hg (by omega))
  | s2 h =>
    rcases Goes.cases h with hstop | ⟨m', rfl, hstep⟩
    · exact .inr (goStop hne hW ha hcom hg (hstop w (RS.refl w)))
    · obtain ⟨a', w', es, hgo, hD, hG⟩ := hstep w (RS.refl w)
      exact .inr (idleD hne (fun _ h => h) ha hcom hgo hD (.s2 hG) hg (by omega))
  | rv h =>
    rcases Goes.cases h with hstop | ⟨m', rfl, hstep⟩
    · exact .inr (recvStop hne hAr ha hcom (.rv h) hg hstop)
    · obtain ⟨a', w', es, hgo, hD, hG⟩ := hstep w (RR.refl w)
      exact .inr (idleD hne (fun _ h => .inl h) ha hcom hgo hD (.rv hG) (hg.world (hD.keep _ (.inl (.inr rfl))) rfl fun _ _ => rfl) (by omega))
  | rp h => simp [parked] at hrun
  | kd h =>
    rcases Goes.cases h with hstop | ⟨m', rfl, hstep⟩
    · obtain ⟨_, a', hgo, m₂, hk⟩ := hstop w (RC.refl w)
      obtain ⟨hlen, hX0, st, sm, hwg, hmd⟩ := hg
      exact .inr (bookC hne ha hcom ⟨hlen, hX0, st, sm, hwg, hmd⟩ hgo (.refl Wg w) hwg bk_dis (.anch hk) (hmd.reopen trivial trivial rfl (by simp)) (.inl (by rw [hlen]; simp only [ConcN.phi]; omega)))
    · obtain ⟨a', w', es, hgo, hD, hG⟩ := hstep w (RC.refl w)
      exact .inr (idleQ hne ha hcom hg hgo hD (by rw [hD.1] at hG ⊢; exact .kd hG) (by omega))
  | anch h =>
    rcases Goes.cases h with hstop | ⟨m', rfl, hstep⟩
    · obtain ⟨hlen, hX0, st, sm, hwg, hmd⟩ := hg
      obtain ⟨m₂, hk⟩ := hAn a w (hstop w (RC.refl w))
      have hmd' := hmd.reopen (tag' := .w1) trivial trivial rfl (by simp)
      -- the walk from the anchor
      rcases Goes.cases hk with hstop2 | ⟨m', rfl, hstep⟩
      · obtain ⟨_, hall⟩ := hstop2 w (RC.refl w)
        obtain ⟨ho, rfl, rfl, _⟩ := hmd'.open_inv trivial
        obtain ⟨a', hgo, h0, hnz⟩ := hall (Vc n D) (by omega) (by simpa [pend] using hwg)
        by_cases hv : Vc n D = 0
        · obtain ⟨m₃, hk3⟩ := h0 hv
          refine .inr (bookC hne ha hcom ⟨hlen, hX0, _, _, hwg, hmd⟩ hgo (.refl Wg w) hwg bk_rd (.ke hk3) ?_ (.inl (by rw [hlen]; simp only [ConcN.phi]; omega)))
          have e : ((Vc n D + pend .w1 : Nat) : Int) * KK = 0 := by rw [hv]; simp [pend]
          rw [e]
          exact .fin trivial (allQuit_of ho hv)
        · obtain ⟨m₃, hk3⟩ := hnz hv
          exact .inr (bookC hne ha hcom ⟨hlen, hX0, _, _, hwg, hmd⟩ hgo (.refl Wg w) hwg bk_rd (.w2 hk3) (hmd'.reopen trivial trivial rfl (fun vs e => by cases e; omega)) (.inl (by rw [hlen]; simp only [ConcN.phi]; omega)))
      · obtain ⟨a', w', es, hgo, hD, hG⟩ := hstep w (RC.refl w)
        obtain ⟨rfl, hev⟩ := hD
        have hd : deafBehind 1 es = 1 := deafBehind_idle (fun e he => ⟨(evQ_facts (hev e he)).1, (evQ_facts (hev e he)).2.1⟩) 1
        exact .inr (callerGo hne ha hcom hgo (WOk.refl w') (fun _ _ _ => rfl) (ok0_of_evQ hcom.wgLt hev) (fun e he => (evQ_facts (hev e he)).2.2) (tag' := .wt .w1) (by rw [hd]; exact .w1 hG) ⟨hlen, hX0, st, sm, hwg, hmd'⟩ (.inl (by simp only [pz, ConcN.phi]; omega)))
    · obtain ⟨a', w', es, hgo, hD, hG⟩ := hstep w (RC.refl w)
      exact .inr (idleQ hne ha hcom hg hgo hD (by rw [hD.1] at hG ⊢; exact .anch hG) (by omega))
  | w1 h =>
    rcases Goes.cases h with hstop | ⟨m', rfl, hstep⟩
    · obtain ⟨_, hall⟩ := hstop w (RC.refl w)
      obtain ⟨hlen, hX0, st, sm, hwg, hmd⟩ := hg
      obtain ⟨ho, rfl, rfl, _⟩ := hmd.open_inv trivial
      obtain ⟨a', hgo, h0, hnz⟩ := hall (Vc n D) (by omega) (by simpa [pend] using hwg)
      by_cases hv : Vc n D = 0
      · obtain ⟨m₃, hk3⟩ := h0 hv
        refine .inr (bookC hne ha hcom ⟨hlen, hX0, _, _, hwg, hmd⟩ hgo (.refl Wg w) hwg bk_rd (.ke hk3) ?_ (.inl (by rw [hlen]; simp only [ConcN.phi]; omega)))
        have e : ((Vc n D + pend .w1 : Nat) : Int) * KK = 0 := by rw [hv]; simp [pend]
        rw [e]
        exact .fin trivial (allQuit_of ho hv)
      · obtain ⟨m₃, hk3⟩ := hnz hv
        exact .inr (bookC hne ha hcom ⟨hlen, hX0, _, _, hwg, hmd⟩ hgo (.refl Wg w) hwg bk_rd (.w2 hk3) (hmd.reopen trivial trivial rfl (fun vs e => by cases e; omega)) (.inl (by rw [hlen]; simp only [ConcN.phi]; omega)))
    · obtain ⟨a', w', es, hgo, hD, hG⟩ := hstep w (RC.refl w)
      exact .inr (idleQ hne ha hcom hg hgo hD (by rw [hD.1] at hG ⊢; exact .w1 hG) (by omega))
  | @w2 vs m _ _ h =>
    rcases Goes.cases h with hstop | ⟨m', rfl, hstep⟩
    · obtain ⟨_, hall⟩ := hstop w (RC.refl w)
      obtain ⟨hlen, hX0, st, sm, hwg, hmd⟩ := hg
      obtain ⟨ho, rfl, rfl, hvs⟩ := hmd.open_inv trivial
      obtain ⟨hv1, hv2⟩ := hvs vs rfl
      obtain ⟨hhit, hmiss⟩ := hall (Vc n D) (by omega) (by simpa [pend] using hwg)
      by_cases hv : Vc n D = vs
      · obtain ⟨a', hgo, m₃, hk3⟩ := hhit hv
        refine .inr (bookC hne ha hcom ⟨hlen, hX0, _, _, hwg, hmd⟩ hgo (aside_setCell w (stA Wg) _) (hwg.setSt _) bk_rw (.w3 hk3) (.reg trivial ho (by omega)) (.inl (by rw [hlen]; simp only [ConcN.phi]; omega)))
      · obtain ⟨a', hgo, m₃, hk3⟩ := hmiss hv
        exact .inr (bookC hne ha hcom ⟨hlen, hX0, _, _, hwg, hmd⟩ hgo (.refl Wg w) hwg bk_rd (.anch hk3) (hmd.reopen trivial trivial rfl (by simp)) (.inl (by rw [hlen]; simp only [ConcN.phi]; omega)))
    · obtain ⟨a', w', es, hgo, hD, hG⟩ := hstep w (RC.refl w)
      exact .inr (idleQ hne ha hcom hg hgo hD (by rw [hD.1] at hG ⊢; exact .w2 hG) (by omega))
  | w3 h =>
    rcases Goes.cases h with hstop | ⟨m', rfl, hstep⟩
    · obtain ⟨_, hoff, hblk, htake⟩ := hstop w (RC.refl w)
      obtain ⟨hlen, hX0, st, sm, hwg, hmd⟩ := hg
      have hg' : GOk ty Wg n V ks X D w (.wt .w3) := ⟨hlen, hX0, st, sm, hwg, hmd⟩
      cases hmd with
      | opn h1 _ _ => exact h1.elim
      | reg h1 h2 h3 => exact .inr (bookC hne ha hcom hg' (hblk ⟨_, hwg⟩) (.refl Wg w) hwg (by simp) (.blk hstop) (.reg trivial h2 h3) (.inr ⟨rfl, by omega⟩))
      | last L h1 h2 h3 h4 => exact .inr (bookC hne ha hcom hg' (hblk ⟨_, hwg⟩) (.refl Wg w) hwg (by simp) (.blk hstop) (.last L trivial h2 h3 h4) (.inr ⟨rfl, by omega⟩))
      | sema h2 =>
        obtain ⟨a', hgo, m₂, hk⟩ := htake hwg
        exact .inr (bookC hne ha hcom hg' hgo (aside_setCell w (smA Wg) _) (hwg.setSm 0) bk_sem (.w4 hk) (.fin trivial h2) (.inl (by simp only [ConcN.phi]; omega)))
      | fin h1 _ => exact h1.elim
    · obtain ⟨a', w', es, hgo, hD, hG⟩ := hstep w (RC.refl w)
      exact .inr (idleQ hne ha hcom hg hgo hD (by rw [hD.1] at hG ⊢; exact .w3 hG) (by omega))
  | blk h => simp at hrun
  | w4 h =>
    rcases Goes.cases h with hstop | ⟨m', rfl, hstep⟩
    · obtain ⟨_, hx⟩ := hstop w (RC.refl w)
      obtain ⟨hlen, hX0, st, sm, hwg, hmd⟩ := hg
      obtain ⟨hq, rfl, rfl⟩ := hmd.fin_inv trivial
      obtain ⟨a', hgo, m₂, hk⟩ := hx hwg
      exact .inr (bookC hne ha hcom ⟨hlen, hX0, _, _, hwg, hmd⟩ hgo (.refl Wg w) hwg bk_rd (.ke hk) (.fin trivial hq) (.inl (by simp only [ConcN.phi]; omega)))
    · obtain ⟨a', w', es, hgo, hD, hG⟩ := hstep w (RC.refl w)
      exact .inr (idleQ hne ha hcom hg hgo hD (by rw [hD.1] at hG ⊢; exact .w4 hG) (by omega))
  | ke h =>
    rcases Goes.cases h with hstop | ⟨m', rfl, hstep⟩
    · obtain ⟨_, a', hgo, m₂, hk⟩ := hstop w (RC.refl w)
      obtain ⟨hlen, hX0, st, sm, hwg, hmd⟩ := hg
      obtain ⟨hq, rfl, rfl⟩ := hmd.fin_inv trivial
      exact .inr (bookC hne ha hcom ⟨hlen, hX0, _, _, hwg, hmd⟩ hgo (.refl Wg w) hwg bk_en (.acq hk) (.fin trivial hq) (.inl (by simp only [ConcN.phi]; omega)))
    · obtain ⟨a', w', es, hgo, hD, hG⟩ := hstep w (RC.refl w)
      exact .inr (idleQ hne ha hcom hg hgo hD (by rw [hD.1] at hG ⊢; exact .ke hG) (by omega))
  | acq h =>
    rcases Goes.cases h with hstop | ⟨m', rfl, hstep⟩
    · exact .inl (acqStop hne ha hcom hg (hstop w (RC.refl w)))
    · obtain ⟨a', w', es, hgo, hD, hG⟩ := hstep w (RC.refl w)
      exact .inr (idleQ hne ha hcom hg hgo hD (by rw [hD.1] at hG ⊢; exact .acq hG) (by omega))
end
end Go.Ph

namespace Go.Ph
open Go Go.Conc Go.ConcN
open Go.ConcR (KK wgBlock WgAt stA smA rd wr mk Payload Aside2 DC0 Bk g_of_ofEvents)
open Go.Br (ShunOf WB)
set_option linter.unusedVariables false
set_option linter.unusedSimpArgs false
set_option linter.unusedSectionVars false

section
variable {P : Program} {ty : TypeId} {Wg : Nat} {rel : TypeId} [Payload] {Sh : Nat → Bool} {z : Value} {Fin An : Goroutine → World → Prop} {V : Nat → List Value} {n W m0 : Nat}
  {ks : List Kid} {gs : Array Goroutine} {w w' : World} {sl : Option (Nat × Nat)} {t : Trace} {X X' : Nat → WX} {D D' : Nat → WD} {q : Nat → Nat} {tag tag' : Tg} {f0 f' d0 : Nat} {a : Goroutine}

theorem some_runs (hAr : ∀ g w, An g w → g.status = .running) (ha : gs[0]? = some a) (hcs : CS P ty Wg rel Sh z Fin An V ks tag f0 d0 a w) (hcom : Com P ty Wg rel Sh m0 ks gs w t X D q d0) (hg : GOk ty Wg n V ks X D w tag) :
    ∃ (i : Nat) (g : Goroutine), gs[i]? = some g ∧ g.status = .running := by
  rcases hcs.status hAr with ⟨h, _⟩ | ⟨_, hsl⟩
  · exact ⟨0, a, ha, h⟩
  · cases tag with
    | st r s => exact hsl.elim
    | rv ls => exact hsl.elim
    | rp ls =>
      obtain ⟨_, ⟨i0, hrv, hst, hne⟩, _⟩ := hg
      have hil : i0 < ks.length := by
        have := hrv.1
        cases ls with
        | nil => exact absurd rfl hne
        | cons _ _ => simp only [List.length_cons] at this; omega
      obtain ⟨k, hk⟩ := get_of_lt hil
      obtain ⟨y, hy, hs, _⟩ := hcom.kid i0 k hk
      refine ⟨_, y, hy, ?_⟩
      generalize hXi : X i0 = x at hs hst
      generalize hDi : D i0 = d at hs
      cases hs with
      | walk h => exact Goes.running (fun _ _ => SendK.run) w (.refl w) h
      | park _ => cases hst
      | r0 _ => cases hst
      | tail _ _ => cases hst
    | wt c =>
      cases c <;> first | exact hsl.elim | skip
      obtain ⟨hlen, hX0, st, sm, hwg, hmd⟩ := hg
      -- some worker is on its way
      have pick : ∃ i, i < n ∧ (D i).stage ≠ 1 := by
        cases hmd with
        | opn h1 _ _ => exact h1.elim
        | reg _ h2 h3 =>
          refine Classical.byContradiction fun hno => ?_
          have : Vc n D = 0 := by
            have hz : ∀ i, i < n → cnt (D i) ≤ 0 := fun i hi => by
              have h1 : (D i).stage = 1 := Classical.byContradiction fun hx => hno ⟨i, hi, hx⟩
              simp [cnt, h1]
            have := sumTo_le (f := fun i => cnt (D i)) (c := 0) (j := n) hz
            simp only [Vc]; omega
          omega
        | last L _ h2 h3 _ => exact ⟨L, h2, by omega⟩
        | fin h1 _ => exact h1.elim
      obtain ⟨i, hin, hs1⟩ := pick
      obtain ⟨k, hk⟩ := get_of_lt (ks := ks) (i := i) (by omega)
      obtain ⟨y, hy, hs, _⟩ := hcom.kid i k hk
      refine ⟨_, y, hy, ?_⟩
      have hx0 := hX0 i (by omega)
      generalize hXi : X i = x at hs hx0
      generalize hDi : D i = d at hs hs1
      cases hs with
      | walk h => cases hx0
      | park _ => cases hx0
      | r0 h => exact Goes.running (fun _ _ x => x.1) w (RW.refl w) h
      | tail _ h =>
        cases h with
        | r0 h => exact Goes.running (fun _ _ x => x.1) w (RW.refl w) h
        | k1 h => exact Goes.running (fun _ _ x => x.1) w (RW.refl w) h
        | d1 h => exact Goes.running (fun _ _ x => x.1) w (RW.refl w) h
        | d2 h => exact Goes.running (fun _ _ x => x.1) w (RW.refl w) h
        | d3 h => exact Goes.running (fun _ _ x => x.1) w (RW.refl w) h
        | d4 h => exact Goes.running (fun _ _ x => x.1) w (RW.refl w) h
        | quit h => exact absurd rfl hs1

theorem all_awake (hAr : ∀ g w, An g w → g.status = .running) (ha : gs[0]? = some a) (hcs : CS P ty Wg rel Sh z Fin An V ks tag f0 d0 a w) (hcom : Com P ty Wg rel Sh m0 ks gs w t X D q d0) : ∀ g ∈ gs, awake g := by
  intro g hg
  obtain ⟨i, hi, rfl⟩ := Array.mem_iff_getElem.1 hg
  have hgi : gs[i]? = some gs[i] := Array.getElem?_eq_getElem hi
  have ok : (gs[i]).status = .running ∨ (gs[i]).status = .finished ∨ (gs[i]).status = .blocked → awake gs[i] := by
    intro h
    intro till e
    rcases h with h | h | h <;> rw [h] at e <;> cases e
  rcases Nat.eq_zero_or_pos i with h0 | h0
  · subst h0
    rw [ha] at hgi
    have e : gs[0] = a := (Option.some.inj hgi).symm
    apply ok
    rw [e]
    rcases hcs.status hAr with ⟨h, _⟩ | ⟨h, _⟩
    · exact .inl h
    · exact .inr (.inr h)
  · rcases Nat.lt_or_ge i m0 with hlt | hge
    · exact ok ((hcom.old i _ h0 hlt hgi).status.imp id .inl)
    · obtain ⟨i', rfl⟩ : ∃ i', i = m0 + i' := ⟨i - m0, by omega⟩
      have hil : i' < ks.length := by rw [hcom.size] at hi; omega
      obtain ⟨k, hk⟩ := get_of_lt hil
      obtain ⟨y, hy, hs, _⟩ := hcom.kid i' k hk
      rw [hgi] at hy
      have e := Option.some.inj hy
      apply ok
      rw [e]
      rcases hs.status with ⟨_, h | h⟩ | ⟨_, h⟩
      · exact .inl h
      · exact .inr (.inl h)
      · exact .inr (.inr h)

theorem inv_step (hne : ty ≠ rel) (hn : n < 2147483648) (hVn : ∀ i, i < n → V i ≠ []) (hW : ∀ i, i < n → 20 * (V i).length + 20 ≤ W) (hAr : ∀ g w, An g w → g.status = .running) (hAn : ∀ g w, An g w → ∃ m, Goes P true (RC ty Wg Wg) (DQ Wg) (XW1 P ty Wg Fin An) m g w)
    {μ : Nat × Nat} {m : Machine} {t : Trace} (h : Inv P ty Wg rel Sh z Fin An V n W m0 μ m t) :
    ∃ m₁ ops, stepT P m = (.next m₁, ops) ∧ (Goal P Wg Sh Fin m₁ (t ++ ops) ∨ ∃ μ', Lt2 μ' μ ∧ Inv P ty Wg rel Sh z Fin An V n W m0 μ' m₁ (t ++ ops)) := by
  obtain ⟨gs, w, sl, ks, X, D, q, tag, f0, d0, a, rfl, ha, hcs, hcom, hg, rfl⟩ := h
  obtain ⟨i, g, d, sl', hgi, hrun, hst⟩ := crowd_pick (P := P) (w := w) (sl := sl) (all_awake hAr ha hcs hcom) (some_runs hAr ha hcs hcom hg)
  have hcs' := hcs.rely (relyOf_at w d)
  have hcom' := hcom.at' d
  have hg' : GOk ty Wg n V ks X D (w.at d) tag := hg.world rfl rfl fun _ _ => rfl
  have fromL : ∀ {i}, stepT P (crowd gs w sl) = runT P (crowd gs (w.at d) sl') i → Leads P ty Wg rel Sh z Fin An V n W m0 (pz n W (Vc ks.length D) tag + Xsum ks.length X + Ssum ks.length D, f0 + 2 * Fsum ks.length D + 2 * sumTo m0 q) (crowd gs (w.at d) sl') t i →
      ∃ m₁ ops, stepT P (crowd gs w sl) = (.next m₁, ops) ∧ (Goal P Wg Sh Fin m₁ (t ++ ops) ∨ ∃ μ', Lt2 μ' (pz n W (Vc ks.length D) tag + Xsum ks.length X + Ssum ks.length D, f0 + 2 * Fsum ks.length D + 2 * sumTo m0 q) ∧ Inv P ty Wg rel Sh z Fin An V n W m0 μ' m₁ (t ++ ops)) := by
    rintro i hst ⟨m₁, ops, μ', h1, h2, h3⟩
    exact ⟨m₁, ops, hst.trans h1, .inr ⟨μ', h2, h3⟩⟩
  rcases Nat.eq_zero_or_pos i with rfl | hi0
  · rw [ha] at hgi; cases hgi
    rcases stepCaller (sl := sl') hne hn hW hAr hAn ha hcs' hcom' hg' hrun with ⟨m₁, ops, h1, h2⟩ | hL
    · exact ⟨m₁, ops, hst.trans h1, .inl h2⟩
    · exact fromL hst hL
  · rcases Nat.lt_or_ge i m0 with hlt | hge
    · exact fromL hst (stepLeaver hAr ha hcs' hcom' hg' hi0 hlt hgi hrun)
    · obtain ⟨i', rfl⟩ : ∃ i', i = m0 + i' := ⟨i - m0, by omega⟩
      have hil : i' < ks.length := by
        have := (Array.getElem?_eq_some_iff.1 hgi).1
        rw [hcom.size] at this; omega
      exact fromL hst (stepWorker hne hn hAr hVn ha hcs' hcom' hg' hil hgi hrun)

theorem inv_runs (hne : ty ≠ rel) (hn : n < 2147483648) (hVn : ∀ i, i < n → V i ≠ []) (hW : ∀ i, i < n → 20 * (V i).length + 20 ≤ W) (hAr : ∀ g w, An g w → g.status = .running) (hAn : ∀ g w, An g w → ∃ m, Goes P true (RC ty Wg Wg) (DQ Wg) (XW1 P ty Wg Fin An) m g w) :
    ∀ (μ : Nat × Nat) (m : Machine) (t : Trace), Inv P ty Wg rel Sh z Fin An V n W m0 μ m t → ∃ N m' t', runNT P N m t = (.next m', t') ∧ Goal P Wg Sh Fin m' t' := by
  intro μ
  induction μ using WellFounded.induction (Prod.lex Nat.lt_wfRel Nat.lt_wfRel).wf with
  | _ μ ih =>
    intro m t h
    obtain ⟨m₁, ops, hst, hG | ⟨μ', hlt, hI⟩⟩ := inv_step hne hn hVn hW hAr hAn h
    · exact ⟨1, m₁, t ++ ops, by simp only [runNT, hst], hG⟩
    · obtain ⟨N, m', t', h1, h2⟩ := ih μ' hlt m₁ (t ++ ops) hI
      exact ⟨N + 1, m', t', by simp only [runNT, hst]; exact h1, h2⟩

theorem past_shun {S S' : Loc → Prop} {B : Nat} (h : Past S B t) (hs : ∀ l, S l → S' l) : Past S' B t := ⟨h.clean, fun i a ha hm => (h.known i a ha hm).imp id fun x => ⟨hs _ x.1, x.2⟩, h.over, h.hears, h.seen⟩

/-- What must stand when the first worker is to be started. -/
structure Ready (P : Program) (ty : TypeId) (Wg : Nat) (rel : TypeId) [Payload] (Sh : Nat → Bool) (z : Value) (An : Goroutine → World → Prop) (V : Nat → List Value) (n : Nat) (g : Goroutine) (w : World) : Prop where
  script : ∃ m, GS P ty Wg rel Sh [] (G5 P ty Wg rel Sh z An V (n - 1) []) m g w
  live : WgLive ty Wg w
  shw : Sh Wg = false
  shty : ∀ b, Sh b = true → b < w.heap.size ∧ ¬ IsTy rel w b

/-- ████ The phase beside leavers, on whatever tape. ████ -/
theorem phase (hne : ty ≠ rel) (hn0 : 0 < n) (hn : n < 2147483648) (hVn : ∀ i, i < n → V i ≠ []) (hW : ∀ i, i < n → 20 * (V i).length + 20 ≤ W) (hAr : ∀ g w, An g w → g.status = .running) (hAn : ∀ g w, An g w → ∃ m, Goes P true (RC ty Wg Wg) (DQ Wg) (XW1 P ty Wg Fin An) m g w)
    {Dp : World → World → Array Event → Prop} (hD : ∀ w w' es, Dp w w' es → ∀ e ∈ es, EvL (ShunOf Sh) Wg e) {g : Goroutine} (hB : w.heap.size ≤ Wg)
    (hpre : ∀ τ d, ∃ k, Goes P true AtRel Dp (Ready P ty Wg rel Sh z An V n) k g (w.on τ d))
    {Q : (Nat → Bool) → Goroutine → World → Prop} (hFin : ∀ g' w', Fin g' w' → WB P Q (fun b => Sh b || b == Wg) g' w') : WB P Q Sh g w := by
  intro τ d gs sl t q h0 hL hP
  obtain ⟨k, hG⟩ := hpre τ d
  obtain ⟨N, gs', a', w', sl', t', q', e1, e2, e3, hR, e5, e6⟩ := walk_beside hD (k + sumTo gs.size q) k gs g (w.on τ d) sl t q (Nat.le_refl _) h0 hL (hP.mono hB) hG
  obtain ⟨m, hs⟩ := hR.script
  have hlt : Wg < w'.heap.size := by obtain ⟨_, _, hl⟩ := hR.live; exact (Array.getElem?_eq_some_iff.1 (show w'.heap[Wg]? = _ from hl)).1
  have hpos : 0 < gs'.size := (Array.getElem?_eq_some_iff.1 e3).1
  have htr0 : TP (ShunOf Sh) (ShN Wg) gs'.size 0 (RdOf rel [] w') Wg t' := TP.start e6 (by
    rintro l ⟨a, rfl, ha⟩ hl
    have hl : a.block < Wg := hl
    omega)
  have htr : TP (ShunOf Sh) (ShN Wg) gs'.size 0 (RdOf rel [] w') w'.heap.size t' := htr0.grow (Nat.le_of_lt hlt) (fun k hk => absurd hk (Nat.not_lt_zero _)) (fun k hk => absurd hk (Nat.not_lt_zero _))
  have hcom : Com P ty Wg rel Sh gs'.size [] gs' w' t' (fun _ => ⟨[], 0⟩) (fun _ => ⟨0, 0, 0⟩) q' 0 := by
    refine ⟨hpos, by simp, fun i g hi _ hg => e5.old i g hi hg, fun i hi => e5.above i (by simpa using hi), fun i k hk => by simp at hk, fun i k hk => by simp at hk, fun i i' k k' hk => by simp at hk, fun i hi => ?_, htr, e6.hears, hR.live, hR.shw, hR.shty, fun k hk => by simp at hk, fun k hk => by simp at hk⟩
    obtain ⟨op, hop, hact⟩ := Option.map_eq_some_iff.1 hi
    have := e6.seen op (Array.mem_of_getElem? hop)
    rw [hact] at this
    exact absurd (show Wg < Wg from this) (Nat.lt_irrefl _)
  have hI : Inv P ty Wg rel Sh z Fin An V n W gs'.size (pz n W (Vc 0 fun _ => (⟨0, 0, 0⟩ : WD)) (.st (n - 1) 5) + Xsum 0 (fun _ => ⟨[], 0⟩) + Ssum 0 (fun _ => ⟨0, 0, 0⟩), m + 2 * Fsum 0 (fun _ => ⟨0, 0, 0⟩) + 2 * sumTo gs'.size q') (crowd gs' w' sl') t' :=
    ⟨gs', w', sl', [], _, _, q', .st (n - 1) 5, m, 0, a', rfl, e3, .s5 hs, hcom, ⟨by simp; omega, fun i hi => by simp at hi⟩, rfl⟩
  obtain ⟨N2, m2, t2, r1, gs2, w2, sl2, q2, a2, rfl, r3, r4, r5, r6⟩ := inv_runs hne hn hVn hW hAr hAn _ _ _ hI
  obtain ⟨M, Sh2, gs3, g3, w3, sl3, t3, q3, f1, f2, f3, f4, f5⟩ := hFin a2 w2 r6 w2.tape w2.drawn gs2 sl2 t2 q2 r3 r4 (past_shun r5 fun l hl => by
    rcases hl with hl | ⟨a, rfl, ha⟩
    · cases l with
      | cell a => have hl : Sh a.block = true := hl; show (Sh a.block || a.block == Wg) = true; rw [hl]; rfl
      | obj r => have hl : Sh r = true := hl; show (Sh r || r == Wg) = true; rw [hl]; rfl
      | _ => exact hl.elim
    · show (Sh a.block || a.block == Wg) = true
      rw [ha]; simp)
  refine ⟨N + (N2 + M), Sh2, gs3, g3, w3, sl3, t3, q3, ?_, f2, f3, f4, f5⟩
  rw [runNT_add, e1]
  show runNT P (N2 + M) (crowd gs' w' sl') t' = _
  rw [runNT_add, r1]
  exact f1
end
#print axioms phase
end Go.Ph

namespace Go.Ph
open Go Go.Conc Go.ConcN Go.RowKit Go.Conc.Lib Go.ConcR.Gen Go.ConcN.Gen
open Go.ConcR (KK wgBlock WgAt stA smA rd wr mk Payload Aside2 DC0)
set_option linter.unusedVariables false
set_option linter.unusedSimpArgs false
set_option linter.unusedSectionVars false
variable [Payload] {L : WgLink}

theorem dq_none {Wg : Nat} (w : World) (es : Array Event) (h : ∀ e ∈ es, False) : DQ Wg w w es := ⟨rfl, fun e he => (h e he).elim⟩
theorem d0_none (w : World) (es : Array Event) (h : ∀ e ∈ es, False) : DC0 w w es := ⟨rfl, Array.eq_empty_iff_forall_not_mem.2 h⟩

section
variable {P : Program} {main : Bool} {R : World → World → Prop} {D : World → World → Array Event → Prop} {Stop : Goroutine → World → Prop} {m : Nat} {b : Frame} {a : Act} {k : List Item} {cs : List Frame} {w : World}
theorem g_seq (T : Terms R D) {x y : Code} (h : Goes P main R D Stop m (G (b.at a (.code x :: .code y :: k)) cs) w) : Goes P main R D Stop (m + 1) (G (b.at a (.code (.seq x y) :: k)) cs) w := Goes.step rfl fun w₁ h₁ => by rw [stepG_seq]; exact ⟨T.idle _, h.rely T.trans h₁⟩
theorem g_skip (T : Terms R D) (h : Goes P main R D Stop m (G (b.at a k) cs) w) : Goes P main R D Stop (m + 1) (G (b.at a (.code .skip :: k)) cs) w := Goes.step rfl fun w₁ h₁ => by rw [stepG_skip]; exact ⟨T.idle _, h.rely T.trans h₁⟩
theorem g_inBlock (T : Terms R D) {id : Nat} (h : Goes P main R D Stop m (G (b.at a k) cs) w) : Goes P main R D Stop (m + 1) (G (b.at a (.inBlock id :: k)) cs) w := Goes.step rfl fun w₁ h₁ => by rw [stepG_inBlock]; exact ⟨T.idle _, h.rely T.trans h₁⟩
theorem g_block (T : Terms R D) {id : Nat} {c : Code} (h : Goes P main R D Stop m (G (b.at a (.code c :: .inBlock id :: k)) cs) w) : Goes P main R D Stop (m + 1) (G (b.at a (.code (.block id c) :: k)) cs) w := Goes.step rfl fun w₁ h₁ => by rw [stepG_block]; exact ⟨T.idle _, h.rely T.trans h₁⟩
theorem g_loop (T : Terms R D) {c : Code} (h : Goes P main R D Stop m (G (b.at a (.code c :: .inLoop c :: k)) cs) w) : Goes P main R D Stop (m + 1) (G (b.at a (.code (.loop c) :: k)) cs) w := Goes.step rfl fun w₁ h₁ => by rw [stepG_loop]; exact ⟨T.idle _, h.rely T.trans h₁⟩
theorem g_inLoop (T : Terms R D) {c : Code} (h : Goes P main R D Stop m (G (b.at a (.code c :: .inLoop c :: k)) cs) w) : Goes P main R D Stop (m + 1) (G (b.at a (.inLoop c :: k)) cs) w := Goes.step rfl fun w₁ h₁ => by rw [stepG_inLoop]; exact ⟨T.idle _, h.rely T.trans h₁⟩
theorem g_region (T : Terms R D) {id : Nat} {ops : Array Oper} {l : List Nat} (hl : List.range ops.size = l) (h : Goes P main R D Stop m (G (b.at a (.inRegion ops l :: k)) cs) w) : Goes P main R D Stop (m + 1) (G (b.at a (.code (.region id ops false) :: k)) cs) w := Goes.step rfl fun w₁ h₁ => by rw [stepG_region, hl]; exact ⟨T.idle _, h.rely T.trans h₁⟩
theorem g_end (T : Terms R D) {ops : Array Oper} (h : Goes P main R D Stop m (G (b.at a k) cs) w) : Goes P main R D Stop (m + 1) (G (b.at a (.inRegion ops [] :: k)) cs) w := Goes.step rfl fun w₁ h₁ => by rw [stepG_region_end]; exact ⟨T.idle _, h.rely T.trans h₁⟩
theorem g_true (T : Terms R D) {c : Operand} {x y : Code} (hc : a.eval c = .bool true) (h : Goes P main R D Stop m (G (b.at a (.code x :: k)) cs) w) : Goes P main R D Stop (m + 1) (G (b.at a (.code (.cond c x y) :: k)) cs) w := Goes.step rfl fun w₁ h₁ => by rw [stepG_cond hc]; exact ⟨T.idle _, h.rely T.trans h₁⟩
theorem g_false (T : Terms R D) {c : Operand} {x y : Code} (hc : a.eval c = .bool false) (h : Goes P main R D Stop m (G (b.at a (.code y :: k)) cs) w) : Goes P main R D Stop (m + 1) (G (b.at a (.code (.cond c x y) :: k)) cs) w := Goes.step rfl fun w₁ h₁ => by rw [stepG_cond hc]; exact ⟨T.idle _, h.rely T.trans h₁⟩
theorem g_ret (T : Terms R D) (h : Goes P main R D Stop m (G { b.at a (.code .ret :: k) with mode := .returning } cs) w) : Goes P main R D Stop (m + 1) (G (b.at a (.code .ret :: k)) cs) w := Goes.step rfl fun w₁ h₁ => by rw [stepG_ret']; exact ⟨T.idle _, h.rely T.trans h₁⟩
theorem g_no (T : Terms R D) {ops : Array Oper} {i : Nat} {rest : List Nat} {o : Oper} (ho : ops[i]? = some o) (hw : Region.wanted o (yielded ops a.tmps) = false) (h : Goes P main R D Stop m (G (b.at (a.put o.dst undef) (.inRegion ops rest :: k)) cs) w) : Goes P main R D Stop (m + 1) (G (b.at a (.inRegion ops (i :: rest) :: k)) cs) w :=
  Goes.step rfl fun w₁ h₁ => by rw [stepG_unwanted ho hw]; exact ⟨T.idle _, h.rely T.trans h₁⟩
theorem goes_eq {s : GStep} {K : Goroutine → World → Array Event → Prop} {g : Goroutine} {w : World} {es : Array Event} (e : s = .go g w es) (h : K g w es) : s.goes K := by rw [e]; exact h
end


end Go.Ph
