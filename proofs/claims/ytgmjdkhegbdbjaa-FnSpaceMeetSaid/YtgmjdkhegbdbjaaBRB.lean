/-
  Each primitive operation agrees in the two worlds; so does what is made of such.
-/
import Derived.Conc.Beside
import Derived.Conc.CrowdTrace
import Derived.Conc.CrowdInv
import Derived.Conc.CrowdStepC
import Derived.Room.Entries
namespace Go.Ph
open Go Go.Conc Go.ConcN
set_option linter.unusedVariables false
set_option linter.unusedSimpArgs false

/-- The groups' cells of earlier phases lie apart from this phase's; what a worker reads lies apart from both. -/
structure Ap (Shun Sh : Loc → Prop) (j : Nat) (Rd : Nat → Loc → Prop) : Prop where
  sh : ∀ l, Sh l → ¬ Shun l
  rdSh : ∀ k, k < j → ∀ l, Rd k l → ¬ Sh l
  rdShun : ∀ k, k < j → ∀ l, Rd k l → ¬ Shun l
  mem : ∀ k, k < j → ∀ l, Rd k l → l.isMemory = true

structure TP (Shun Sh : Loc → Prop) (m j : Nat) (Rd : Nat → Loc → Prop) (B : Nat) (t : Trace) : Prop where
  nr : ∀ said, ¬ Race said t
  quiet : ∀ i a, touchAt t i = some a → Sh a.loc → a.kind ≠ .plain
  rd : ∀ k, k < j → ∀ i a, touchAt t i = some a → a.write = true → Rd k a.loc → Knows t (m + k) i
  known : ∀ i a, touchAt t i = some a → a.loc.isMemory = true → Knows t 0 i ∨ (Shun a.loc ∧ a.kind = .atomic) ∨ ∃ k, k < j ∧ t.g? i = some (m + k) ∧ ((Sh a.loc ∧ a.kind = .atomic) ∨ (Rd k a.loc ∧ a.write = false ∧ (a.kind = .plain ∨ (a.kind = .atomic ∧ t.heard i))))
  over : ∀ i g, t.g? i = some g → g ≠ 0 → t.counts i → (∃ q, t.g? q = some 0 ∧ HappensBefore t i q) ∨ ∃ k, k < j ∧ g = m + k
  seen : ∀ op ∈ t, op.act.low B

/-- What the starter may do. -/
def Ok0 (Shun Sh : Loc → Prop) (j : Nat) (Rd : Nat → Loc → Prop) (B : Nat) (op : MemOp) : Prop :=
  op.act.low B ∧ ∀ x, op.act.touch? = some x → (Sh x.loc ∧ x.kind ≠ .plain) ∨ (¬ Sh x.loc ∧ (Shun x.loc → x.kind ≠ .plain) ∧ (x.write = true → ∀ k, k < j → ¬ Rd k x.loc))
/-- What worker k may do. -/
def OkW (Sh : Loc → Prop) (Rd : Loc → Prop) (B : Nat) (op : MemOp) : Prop :=
  op.act.low B ∧ ∀ x, op.act.touch? = some x → (Sh x.loc ∧ x.kind = .atomic) ∨ (Rd x.loc ∧ x.write = false ∧ x.kind = .plain)

section
variable {Shun Sh : Loc → Prop} {m j : Nat} {Rd : Nat → Loc → Prop} {B : Nat} {t u : Trace}

theorem over_app {Q : Nat → Prop} (h : ∀ i g, t.g? i = some g → g ≠ 0 → t.counts i → (∃ q, t.g? q = some 0 ∧ HappensBefore t i q) ∨ Q g)
    (hu : ∀ op ∈ u, op.g = 0 ∨ op.act.touch? = none ∨ Q op.g) : ∀ i g, (t ++ u).g? i = some g → g ≠ 0 → (t ++ u).counts i → (∃ q, (t ++ u).g? q = some 0 ∧ HappensBefore (t ++ u) i q) ∨ Q g := by
  intro i g hg hne hc
  obtain ⟨x, hx, hrest⟩ := hc
  obtain ⟨op, hop, hox⟩ := touch_of hx
  have hgo : op.g = g := by simpa [Trace.g?, hop] using hg
  rcases getElem?_append_cases hop with ⟨hi, hop'⟩ | ⟨_, hopu⟩
  · rcases h i g (by simpa [Trace.g?, getElem?_append_old hi] using hg) hne ((counts_old hi).1 ⟨x, hx, hrest⟩) with ⟨q, hq, hb⟩ | hq
    · have hql : q < t.size := by
        unfold Trace.g? at hq
        obtain ⟨z, hz, _⟩ := Option.map_eq_some_iff.1 hq
        exact lt_size_of_getElem? hz
      exact .inl ⟨q, by simpa [Trace.g?, getElem?_append_old hql] using hq, hb_app u hb⟩
    · exact .inr hq
  · rcases hu op hopu with h0 | h0 | h0
    · exact absurd (hgo.symm.trans h0) hne
    · rw [h0] at hox; cases hox
    · exact .inr (hgo ▸ h0)

theorem touch_old {i : Nat} {a : Touch} (h : touchAt (t ++ u) i = some a) : (i < t.size ∧ touchAt t i = some a) ∨ ∃ op ∈ u, op.act.touch? = some a ∧ (t ++ u)[i]? = some op := by
  obtain ⟨x, hx, hxa⟩ := touch_of h
  rcases getElem?_append_cases hx with ⟨hi, hx'⟩ | ⟨_, hxu⟩
  · exact .inl ⟨hi, by rw [touchAt_of hx']; exact hxa⟩
  · exact .inr ⟨x, hxu, hxa, hx⟩

theorem known_app {P P' : Nat → Nat → Touch → Prop} (hPP : ∀ i k a, i < t.size → P i k a → P' i k a) (h : ∀ i a, touchAt t i = some a → a.loc.isMemory = true → Knows t 0 i ∨ (Shun a.loc ∧ a.kind = .atomic) ∨ ∃ k, k < j ∧ t.g? i = some (m + k) ∧ P i k a)
    (hu : ∀ op ∈ u, ∀ a, op.act.touch? = some a → op.g = 0 ∨ ∃ k, k < j ∧ op.g = m + k ∧ ∀ i, (t ++ u)[i]? = some op → P' i k a) :
    ∀ i a, touchAt (t ++ u) i = some a → a.loc.isMemory = true → Knows (t ++ u) 0 i ∨ (Shun a.loc ∧ a.kind = .atomic) ∨ ∃ k, k < j ∧ (t ++ u).g? i = some (m + k) ∧ P' i k a := by
  intro i a ha hm
  rcases touch_old ha with ⟨hi, ha'⟩ | ⟨op, hop, hoa, hi⟩
  · rcases h i a ha' hm with h | h | ⟨k, hk, hg, hp⟩
    · exact .inl (h.app u)
    · exact .inr (.inl h)
    · exact .inr (.inr ⟨k, hk, by rw [Conc.g?_old hi]; exact hg, hPP i k a hi hp⟩)
  · rcases hu op hop a hoa with h0 | ⟨k, hk, hg, hp⟩
    · have := knows_own hi
      rw [h0] at this
      exact .inl this
    · exact .inr (.inr ⟨k, hk, by simp [Trace.g?, hi, hg], hp i hi⟩)

theorem rd_app {g : Nat} {R : Loc → Prop} (h : ∀ i a, touchAt t i = some a → a.write = true → R a.loc → Knows t g i) (hu : ∀ op ∈ u, ∀ a, op.act.touch? = some a → a.write = true → ¬ R a.loc) :
    ∀ i a, touchAt (t ++ u) i = some a → a.write = true → R a.loc → Knows (t ++ u) g i := by
  intro i a ha hw hr
  rcases touch_old ha with ⟨_, ha'⟩ | ⟨op, hop, hoa, _⟩
  · exact (h i a ha' hw hr).app u
  · exact absurd hr (hu op hop a hoa hw)

theorem seen_app (h : ∀ op ∈ t, op.act.low B) (hu : ∀ op ∈ u, op.act.low B) : ∀ op ∈ t ++ u, op.act.low B := fun op hop => (Array.mem_append.1 hop).elim (h op) (hu op)

theorem heardPP {Sh : Loc → Prop} {Rd : Nat → Loc → Prop} : ∀ (i k : Nat) (a : Touch), i < t.size → ((Sh a.loc ∧ a.kind = .atomic) ∨ (Rd k a.loc ∧ a.write = false ∧ (a.kind = .plain ∨ (a.kind = .atomic ∧ t.heard i)))) →
    ((Sh a.loc ∧ a.kind = .atomic) ∨ (Rd k a.loc ∧ a.write = false ∧ (a.kind = .plain ∨ (a.kind = .atomic ∧ (t ++ u).heard i)))) := fun i k a hi h =>
  h.imp id fun ⟨h1, h2, h3⟩ => ⟨h1, h2, h3.imp id fun ⟨h4, h5⟩ => ⟨h4, (heard_old hi).2 h5⟩⟩

/-- Operations of the starter's. -/
theorem TP.app0 (A : Ap Shun Sh j Rd) (h : TP Shun Sh m j Rd B t) (hg : ∀ op ∈ u, op.g = 0) (hu : ∀ op ∈ u, Ok0 Shun Sh j Rd B op) : TP Shun Sh m j Rd B (t ++ u) := by
  refine ⟨fun said => noRace_append (h.nr said) hg fun i a ha op hop b hb hc => ?_, fun i a ha hs => ?_, fun k hk => rd_app (h.rd k hk) fun op hop a ha hw hr => ?_, known_app heardPP h.known fun op hop a _ => .inl (hg op hop), over_app h.over fun op hop => .inl (hg op hop), seen_app h.seen fun op hop => (hu op hop).1⟩
  · have hm : a.loc.isMemory = true := hc.2.1
    rcases (hu op hop).2 b hb with ⟨hs, hk⟩ | ⟨hs, hsn, hw⟩
    · have hap := h.quiet i a ha (hc.1 ▸ hs)
      have hsaid : a.kind = .said := by rcases hc.2.2.2 with x | x | ⟨_, x, _⟩ <;> first | exact absurd x hap | exact absurd x hk | exact x
      rcases h.known i a ha hm with x | ⟨_, x⟩ | ⟨k, _, _, ⟨_, x⟩ | ⟨_, _, x | ⟨x, _⟩⟩⟩
      · exact x
      all_goals rw [hsaid] at x; cases x
    · rcases h.known i a ha hm with x | ⟨y, x⟩ | ⟨k, hk, _, ⟨y, x⟩ | ⟨y, x, _⟩⟩
      · exact x
      · have hbk := hsn (hc.1 ▸ y)
        rcases hc.2.2.2 with z | z | ⟨_, z, _⟩
        · rw [x] at z; cases z
        · exact absurd z hbk
        · rw [x] at z; cases z
      · exact absurd (hc.1 ▸ y) hs
      · rcases hc.2.2.1 with z | z
        · rw [x] at z; cases z
        · exact absurd (hc.1 ▸ y) (hw z k hk)
  · rcases touch_old ha with ⟨_, ha'⟩ | ⟨op, hop, hoa, _⟩
    · exact h.quiet i a ha' hs
    · rcases (hu op hop).2 a hoa with ⟨_, hk⟩ | ⟨hn, _⟩
      · exact hk
      · exact absurd hs hn
  · rcases (hu op hop).2 a ha with ⟨hs, _⟩ | ⟨_, _, hn⟩
    · exact A.rdSh k hk _ hr hs
    · exact hn hw k hk hr

/-- Operations of worker k's. -/
theorem TP.appW (A : Ap Shun Sh j Rd) (h : TP Shun Sh m j Rd B t) {k : Nat} (hk : k < j) (hg : ∀ op ∈ u, op.g = m + k) (hu : ∀ op ∈ u, OkW Sh (Rd k) B op) : TP Shun Sh m j Rd B (t ++ u) := by
  refine ⟨fun said => noRace_append (h.nr said) hg fun i a ha op hop b hb hc => ?_, fun i a ha hs => ?_, fun k' hk' => rd_app (h.rd k' hk') fun op hop a ha hw hr => ?_, known_app heardPP h.known fun op hop a ha => .inr ⟨k, hk, hg op hop, fun _ _ => ((hu op hop).2 a ha).imp id fun ⟨x1, x2, x3⟩ => ⟨x1, x2, .inl x3⟩⟩, over_app h.over fun op hop => .inr (.inr ⟨k, hk, hg op hop⟩), seen_app h.seen fun op hop => (hu op hop).1⟩
  · rcases (hu op hop).2 b hb with ⟨hs, hkd⟩ | ⟨hr, hw, _⟩
    · have hap := h.quiet i a ha (hc.1 ▸ hs)
      exfalso
      rcases hc.2.2.2 with x | x | ⟨_, _, x⟩
      · exact hap x
      · rw [hkd] at x; cases x
      · rw [hkd] at x; cases x
    · rcases hc.2.2.1 with z | z
      · exact h.rd k hk i a ha z (hc.1 ▸ hr)
      · rw [hw] at z; cases z
  · rcases touch_old ha with ⟨_, ha'⟩ | ⟨op, hop, hoa, _⟩
    · exact h.quiet i a ha' hs
    · rcases (hu op hop).2 a hoa with ⟨_, x⟩ | ⟨hr, _⟩
      · rw [x]; simp
      · exact absurd hs (A.rdSh k hk _ hr)
  · rcases (hu op hop).2 a ha with ⟨hs, _⟩ | ⟨_, x, _⟩
    · exact A.rdSh k' hk' _ hr hs
    · rw [x] at hw; cases hw

/-- A worker looks, atomically, where it may look (its channel, when it closes it); it is heard. -/
theorem TP.appC (A : Ap Shun Sh j Rd) (h : TP Shun Sh m j Rd B t) {k : Nat} (hk : k < j) (hg : ∀ op ∈ u, op.g = m + k) (hl : ∀ op ∈ u, op.act.low B) (hd : ∀ i, t.size ≤ i → i < (t ++ u).size → (t ++ u).heard i)
    (hu : ∀ op ∈ u, ∀ x, op.act.touch? = some x → Rd k x.loc ∧ x.write = false ∧ x.kind = .atomic) : TP Shun Sh m j Rd B (t ++ u) := by
  refine ⟨fun said => noRace_append (h.nr said) hg fun i a ha op hop b hb hc => ?_, fun i a ha hs => ?_, fun k' hk' => rd_app (h.rd k' hk') fun op hop a ha hw hr => ?_, ?_, over_app h.over fun op hop => .inr (.inr ⟨k, hk, hg op hop⟩), seen_app h.seen hl⟩
  · obtain ⟨hr, hw, _⟩ := hu op hop b hb
    rcases hc.2.2.1 with z | z
    · exact h.rd k hk i a ha z (hc.1 ▸ hr)
    · rw [hw] at z; cases z
  · rcases touch_old ha with ⟨_, ha'⟩ | ⟨op, hop, hoa, _⟩
    · exact h.quiet i a ha' hs
    · exact absurd hs (A.rdSh k hk _ (hu op hop a hoa).1)
  · rw [(hu op hop a ha).2.1] at hw; cases hw
  · intro i a ha hm
    rcases touch_old ha with ⟨hi, ha'⟩ | ⟨op, hop, hoa, hi⟩
    · rcases h.known i a ha' hm with h | h | ⟨k, hk, hg, hp⟩
      · exact .inl (h.app u)
      · exact .inr (.inl h)
      · exact .inr (.inr ⟨k, hk, by rw [Conc.g?_old hi]; exact hg, heardPP i k a hi hp⟩)
    · by_cases hlt : i < t.size
      · have ha' : touchAt t i = some a := by
          rw [getElem?_append_old hlt] at hi
          rw [touchAt_of hi]; exact hoa
        rcases h.known i a ha' hm with h | h | ⟨k, hk, hg, hp⟩
        · exact .inl (h.app u)
        · exact .inr (.inl h)
        · exact .inr (.inr ⟨k, hk, by rw [Conc.g?_old hlt]; exact hg, heardPP i k a hlt hp⟩)
      · obtain ⟨h1, h2, h3⟩ := hu op hop a hoa
        exact .inr (.inr ⟨k, hk, by simp [Trace.g?, hi, hg op hop], .inr ⟨h1, h2, .inr ⟨h3, hd i (by omega) (lt_size_of_getElem? hi)⟩⟩⟩)

theorem noRace_none {said : Bool} (h : ¬ Race said t) (hu : ∀ op ∈ u, op.act.touch? = none) : ¬ Race said (t ++ u) := by
  rintro ⟨i, j, hij, ⟨a, b, ha, hb, hc⟩, n1, n2⟩
  rcases touch_old (u := u) ha with ⟨_, ha'⟩ | ⟨op, hop, hoa, _⟩
  · rcases touch_old (u := u) hb with ⟨_, hb'⟩ | ⟨op, hop, hoa, _⟩
    · exact h ⟨i, j, hij, ⟨a, b, ha', hb', hc⟩, fun e => n1 (hb_app u e), fun e => n2 (hb_app u e)⟩
    · rw [hu op hop] at hoa; cases hoa
  · rw [hu op hop] at hoa; cases hoa

/-- Operations that touch nothing, whoever makes them. -/
theorem TP.appN (h : TP Shun Sh m j Rd B t) (hn : ∀ op ∈ u, op.act.touch? = none) (hl : ∀ op ∈ u, op.act.low B) : TP Shun Sh m j Rd B (t ++ u) := by
  refine ⟨fun said => noRace_none (h.nr said) hn, fun i a ha hs => ?_, fun k hk => rd_app (h.rd k hk) fun op hop a ha => (by rw [hn op hop] at ha; cases ha), known_app heardPP h.known fun op hop a ha => (by rw [hn op hop] at ha; cases ha), over_app h.over fun op hop => .inr (.inl (hn op hop)), seen_app h.seen hl⟩
  rcases touch_old ha with ⟨_, ha'⟩ | ⟨op, hop, hoa, _⟩
  · exact h.quiet i a ha' hs
  · rw [hn op hop] at hoa; cases hoa

/-- The world grew: there is more to read, none of which has been touched. -/
theorem TP.grow {B' : Nat} {Rd' : Nat → Loc → Prop} (h : TP Shun Sh m j Rd B t) (hB : B ≤ B') (h1 : ∀ k, k < j → ∀ l, Rd k l → Rd' k l) (h2 : ∀ k, k < j → ∀ l, Rd' k l → l.low B → Rd k l) : TP Shun Sh m j Rd' B' t := by
  have lowOf : ∀ i a, touchAt t i = some a → a.loc.low B := by
    intro i a ha
    obtain ⟨x, hx, hxa⟩ := touch_of ha
    have := h.seen x (Array.mem_of_getElem? hx)
    revert this hxa
    cases x.act with
    | access e => intro e1 e2; simp only [MemAct.touch?, Option.some.injEq] at e1; subst e1; exact e2
    | mark mk => cases mk <;> intro e1 e2 <;> simp only [MemAct.touch?, Option.some.injEq, reduceCtorEq] at e1 <;> (subst e1; exact e2)
    | _ => intro e1; simp [MemAct.touch?] at e1
  refine ⟨h.nr, h.quiet, fun k hk i a ha hw hr => h.rd k hk i a ha hw (h2 k hk _ hr (lowOf i a ha)), fun i a ha hm => ?_, h.over, fun op hop => MemAct.low_mono hB (h.seen op hop)⟩
  rcases h.known i a ha hm with x | x | ⟨k, hk, hg, y | ⟨y, z⟩⟩
  · exact .inl x
  · exact .inr (.inl x)
  · exact .inr (.inr ⟨k, hk, hg, .inl y⟩)
  · exact .inr (.inr ⟨k, hk, hg, .inr ⟨h1 k hk _ y, z⟩⟩)

/-- A go statement. -/
theorem TP.fork (A : Ap Shun Sh (j + 1) Rd) (h : TP Shun Sh m j Rd B t) {x y : MemOp} (hx : x.g = 0 ∧ x.act = .go (m + j)) (hy : y.g = m + j ∧ y.act = .start) (h0 : Deaf t 0 = 0) (hk : Deaf t (m + j) = 0) : TP Shun Sh m (j + 1) Rd B (t ++ #[x, y]) := by
  have hn : ∀ op ∈ #[x, y], op.act.touch? = none := by
    intro op hop
    simp only [List.mem_toArray, List.mem_cons, List.not_mem_nil, or_false] at hop
    rcases hop with rfl | rfl
    · rw [hx.2]; rfl
    · rw [hy.2]; rfl
  have hl : ∀ op ∈ #[x, y], op.act.low B := by
    intro op hop
    simp only [List.mem_toArray, List.mem_cons, List.not_mem_nil, or_false] at hop
    rcases hop with rfl | rfl
    · rw [hx.2]; trivial
    · rw [hy.2]; trivial
  have h' := h.appN hn hl
  refine ⟨h'.nr, h'.quiet, fun k hkj i a ha hw hr => ?_, fun i a ha hm => ?_, fun i g hg hne hc => ?_, h'.seen⟩
  · rcases Nat.lt_or_ge k j with hlt | hge
    · exact h'.rd k hlt i a ha hw hr
    · obtain rfl : k = j := by omega
      rcases touch_old ha with ⟨_, ha'⟩ | ⟨op, hop, hoa, _⟩
      · by_cases hm : a.loc.isMemory = true
        · rcases h.known i a ha' hm with z | ⟨z, _⟩ | ⟨k', hk', _, ⟨z, _⟩ | ⟨_, z, _⟩⟩
          · exact fork_knows hx hy h0 hk z
          · exact absurd z (A.rdShun k (Nat.lt_succ_self _) _ hr)
          · exact absurd z (A.rdSh k (Nat.lt_succ_self _) _ hr)
          · rw [z] at hw; cases hw
        · exact absurd (A.mem k hkj _ hr) hm
      · rw [hn op hop] at hoa; cases hoa
  · rcases h'.known i a ha hm with z | z | ⟨k', hk', z⟩
    · exact .inl z
    · exact .inr (.inl z)
    · exact .inr (.inr ⟨k', Nat.lt_succ_of_lt hk', z⟩)
  · rcases h'.over i g hg hne hc with z | ⟨k', hk', z⟩
    · exact .inl z
    · exact .inr ⟨k', Nat.lt_succ_of_lt hk', z⟩

/-- Ahead of the phase. -/
theorem TP.start (h : Past Shun B t) (hSh : ∀ l, Sh l → ¬ l.low B) : TP Shun Sh m 0 Rd B t := by
  refine ⟨h.clean, fun i a ha hs => ?_, fun k hk => absurd hk (Nat.not_lt_zero _), fun i a ha hm => (h.known i a ha hm).imp id .inl, fun i g hg hne hc => .inl (h.over i g hg hne hc), h.seen⟩
  exfalso
  obtain ⟨x, hx, hxa⟩ := touch_of ha
  have := h.seen x (Array.mem_of_getElem? hx)
  revert this hxa
  cases x.act with
  | access e => intro e1 e2; simp only [MemAct.touch?, Option.some.injEq] at e1; subst e1; exact hSh _ hs e2
  | mark mk => cases mk <;> intro e1 e2 <;> simp only [MemAct.touch?, Option.some.injEq, reduceCtorEq] at e1 <;> (subst e1; exact hSh _ hs e2)
  | _ => intro e1; simp [MemAct.touch?] at e1

/-- Behind the phase: goroutine 0 has said 'acquire' behind every worker's release. -/
theorem TP.done {a : Addr} (h : TP Shun Sh m j Rd B t) (hn : NoRelease a t) (hd : Deaf t 0 = 0) {q : Nat} (hq : t.act? q = some (.mark (.acquire a))) (hg : t.g? q = some 0) (hh : t.heard q) (all : ∀ k, k < j → ∃ r, RelBy a t (m + k) r ∧ r < q) :
    Past (fun l => Shun l ∨ Sh l) B t := by
  have edge : ∀ k, k < j → ∀ i, t.g? i = some (m + k) → t.counts i → HappensBefore t i q := by
    intro k hk i hgi hc
    obtain ⟨r, hr, hrq⟩ := all k hk
    have e : HappensBefore t r q := .single (.inr ⟨.marked hrq (.inr hr.act) hq (fun k _ _ => hn k), hr.heard, hh⟩)
    have hle : i ≤ r := Nat.le_of_not_lt fun hlt => hr.after i hlt hgi hc
    rcases Nat.lt_or_ge i r with hlt | hge
    · exact .trans (.single (.inl ⟨hlt, m + k, hgi, hr.g⟩)) e
    · obtain rfl : i = r := by omega
      exact e
  refine ⟨h.nr, fun i x hx hm => ?_, fun i g hgi hne hc => ?_, hd, h.seen⟩
  · rcases h.known i x hx hm with y | ⟨y, z⟩ | ⟨k, hk, hgi, ⟨y, z⟩ | ⟨_, _, z | ⟨_, z⟩⟩⟩
    · exact .inl y
    · exact .inr ⟨.inl y, z⟩
    · exact .inr ⟨.inr y, z⟩
    · obtain ⟨op, hop, hopg⟩ := Option.map_eq_some_iff.1 hg
      exact .inl ⟨q, op, hop, hopg, .inr (edge k hk i hgi ⟨x, hx, hm, .inl (by rw [z]; simp)⟩)⟩
    · obtain ⟨op, hop, hopg⟩ := Option.map_eq_some_iff.1 hg
      exact .inl ⟨q, op, hop, hopg, .inr (edge k hk i hgi ⟨x, hx, hm, .inr z⟩)⟩
  · rcases h.over i g hgi hne hc with y | ⟨k, hk, rfl⟩
    · exact y
    · exact ⟨q, hg, edge k hk i hgi hc⟩

end
end Go.Ph

namespace Go.Ph
open Go Go.Conc Go.ConcN
open Go.ConcR (KK wgBlock WgAt stA smA rd wr mk Payload Aside2 DC0)
set_option linter.unusedVariables false
set_option linter.unusedSimpArgs false
set_option linter.unusedSectionVars false

def IsTy (rel : TypeId) (w : World) (b : Nat) : Prop := ∃ c f, w.heap[b]? = some (.cells c rel f)
def IsChan (w : World) (b : Nat) : Prop := ∃ cap buf cl s r tm, w.heap[b]? = some (.chan cap buf cl s r tm)
theorem IsTy.of {rel : TypeId} {w w' : World} {b : Nat} (h : IsTy rel w b) (e : w'.heap[b]? = w.heap[b]?) : IsTy rel w' b := by
  obtain ⟨c, f, h⟩ := h; exact ⟨c, f, e.trans h⟩
theorem IsTy.lt {rel : TypeId} {w : World} {b : Nat} (h : IsTy rel w b) : b < w.heap.size := by obtain ⟨c, f, h⟩ := h; exact (Array.getElem?_eq_some_iff.1 h).1
theorem IsTy.notChan {rel : TypeId} {w : World} {b : Nat} (h : IsTy rel w b) : ¬ IsChan w b := by
  obtain ⟨c, f, h⟩ := h
  rintro ⟨_, _, _, _, _, _, h'⟩
  rw [h] at h'; cases h'
theorem IsChan.of {w w' : World} {b : Nat} (h : IsChan w b) (e : w'.heap[b]? = w.heap[b]?) : IsChan w' b := by
  obtain ⟨_, _, _, _, _, _, h⟩ := h; exact ⟨_, _, _, _, _, _, e.trans h⟩
theorem IsChan.lt {w : World} {b : Nat} (h : IsChan w b) : b < w.heap.size := by obtain ⟨_, _, _, _, _, _, h⟩ := h; exact (Array.getElem?_eq_some_iff.1 h).1

/-- Nothing outside of the heap turns, but the count of draws. -/
structure Env (w w' : World) : Prop where
  tape : w'.tape = w.tape
  os : w'.os = w.os
  output : w'.output = w.output
theorem Env.refl (w : World) : Env w w := ⟨rfl, rfl, rfl⟩
theorem Env.trans {a b c : World} (h : Env a b) (k : Env b c) : Env a c := ⟨k.tape.trans h.tape, k.os.trans h.os, k.output.trans h.output⟩

/-- A worker: its channel, the box of its closure that holds the channel, the boxes that it reads. -/
structure Kid where
  c : Nat
  box : Nat
  cap : Nat → Prop

/-- What a worker suffers while it sends. -/
structure RK (ty : TypeId) (Wg : Nat) (rel : TypeId) (cap : Nat → Prop) (w w₁ : World) : Prop where
  size : w.heap.size ≤ w₁.heap.size
  keep : ∀ b, cap b ∨ IsTy rel w b → w₁.heap[b]? = w.heap[b]?
  live : WgLive ty Wg w → WgLive ty Wg w₁
theorem RK.refl {ty : TypeId} {Wg : Nat} {rel : TypeId} {cap : Nat → Prop} (w : World) : RK ty Wg rel cap w w := ⟨Nat.le_refl _, fun _ _ => rfl, id⟩
theorem RK.trans {ty : TypeId} {Wg : Nat} {rel : TypeId} {cap : Nat → Prop} {a b c : World} (h : RK ty Wg rel cap a b) (k : RK ty Wg rel cap b c) : RK ty Wg rel cap a c :=
  ⟨Nat.le_trans h.size k.size, fun x hx => (k.keep x (hx.imp id fun y => y.of (h.keep x hx))).trans (h.keep x hx), k.live ∘ h.live⟩

/-- What such a step may list: plain looks at what the worker reads; what names no place. -/
def EvK (rel : TypeId) (cap : Nat → Prop) (w : World) (e : Event) : Prop :=
  (∃ a : Addr, e = ⟨.cell a, false, false⟩ ∧ a.block < w.heap.size ∧ (cap a.block ∨ IsTy rel w a.block)) ∨ (∃ f, e.loc = .mark (.extern f)) ∨ e.loc = .mark .noRoom
/-- What a worker does to the world while it works: it makes memory, and writes none. -/
structure DK (rel : TypeId) (cap : Nat → Prop) (w w' : World) (es : Array Event) : Prop where
  env : Env w w'
  size : w.heap.size ≤ w'.heap.size
  old : ∀ b, b < w.heap.size → w'.heap[b]? = w.heap[b]?
  evs : ∀ e ∈ es, EvK rel cap w e

/-- What the starter suffers while it starts: the others make memory. -/
structure RS (w w₁ : World) : Prop where
  env : Env w w₁
  size : w.heap.size ≤ w₁.heap.size
  old : ∀ b, b < w.heap.size → w₁.heap[b]? = w.heap[b]?
theorem RS.refl (w : World) : RS w w := ⟨.refl w, Nat.le_refl _, fun _ _ => rfl⟩
theorem RS.trans {a b c : World} (h : RS a b) (k : RS b c) : RS a c := ⟨h.env.trans k.env, Nat.le_trans h.size k.size, fun x hx => (k.old x (Nat.lt_of_lt_of_le hx h.size)).trans (h.old x hx)⟩

/-- .. while it receives: channels and the group's block may turn besides. -/
structure RR (ty : TypeId) (Wg : Nat) (w w₁ : World) : Prop where
  env : Env w w₁
  size : w.heap.size ≤ w₁.heap.size
  old : ∀ b, b < w.heap.size → (b < Wg ∨ ¬ IsChan w b) → b ≠ Wg → w₁.heap[b]? = w.heap[b]?
  chan : ∀ b, IsChan w b → IsChan w₁ b
  live : WgLive ty Wg w → WgLive ty Wg w₁
theorem RR.refl {ty : TypeId} {Wg : Nat} (w : World) : RR ty Wg w w := ⟨.refl w, Nat.le_refl _, fun _ _ _ _ => rfl, fun _ h => h, id⟩
theorem RR.trans {ty : TypeId} {Wg : Nat} {a b c : World} (h : RR ty Wg a b) (k : RR ty Wg b c) : RR ty Wg a c :=
  ⟨h.env.trans k.env, Nat.le_trans h.size k.size, fun x hx hc hw => (k.old x (Nat.lt_of_lt_of_le hx h.size) (hc.imp id fun nc y => nc (y.of (h.old x hx (.inr nc) hw).symm)) hw).trans (h.old x hx hc hw), fun x y => k.chan x (h.chan x y), k.live ∘ h.live⟩

/-- What a step of the starter's may list. -/
def EvC (Wg : Nat) (rel : TypeId) (Sh : Nat → Bool) (kp : Nat → Prop) (w : World) (e : Event) : Prop :=
  (∃ (a : Addr) (wt : Bool), e = ⟨.cell a, wt, false⟩ ∧ a.block < w.heap.size ∧ a.block ≠ Wg ∧ Sh a.block = false ∧ (wt = true → ¬ kp a.block ∧ ¬ IsTy rel w a.block)) ∨
  (∃ (a : Addr) (wt : Bool), e = ⟨.cell a, wt, true⟩ ∧ a.block = Wg) ∨ (∃ a : Addr, (e.loc = .mark (.read a) ∨ e.loc = .mark (.write a)) ∧ a.block = Wg) ∨ (∃ f, e.loc = .mark (.extern f)) ∨ e.loc = .mark .noRoom
/-- What the starter does to the world: what it keeps ('kp') stands, and every block of the type that the workers read. -/
structure DC (ty : TypeId) (Wg : Nat) (rel : TypeId) (Sh : Nat → Bool) (kp : Nat → Prop) (w w' : World) (es : Array Event) : Prop where
  env : Env w w'
  size : w.heap.size ≤ w'.heap.size
  keep : ∀ b, kp b ∨ IsTy rel w b → w'.heap[b]? = w.heap[b]?
  back : ∀ b, b < w.heap.size → IsTy rel w' b → IsTy rel w b
  live : WgLive ty Wg w → WgLive ty Wg w'
  evs : ∀ e ∈ es, EvC Wg rel Sh kp w' e

def keptBy (ks : List Kid) (b : Nat) : Prop := ∃ k ∈ ks, b = k.c ∨ k.cap b

/-- In Wait. -/
def EvQ (Wg : Nat) (e : Event) : Prop := (∃ a : Addr, (e.loc = .mark (.read a) ∨ e.loc = .mark (.write a)) ∧ a.block = Wg) ∨ (∃ f, e.loc = .mark (.extern f)) ∨ e.loc = .mark .noRoom
def DQ (Wg : Nat) (w w' : World) (es : Array Event) : Prop := w' = w ∧ ∀ e ∈ es, EvQ Wg e

abbrev No : Nat → Loc → Prop := fun _ _ => False

section
variable (P : Program) (ty : TypeId) (Wg : Nat) (rel : TypeId) [Payload]

/-! ### a worker -/
def SendK (k : Kid) : List Value → Goroutine → World → Prop
  | [], g, w => g.status = .running ∧ mayWake P g = true ∧ ∀ s r tm, w.heap[k.c]? = some (.chan 0 #[] false s r tm) →
      ∃ g₂, stepG P false g w = .go g₂ (w.shut k.c s r tm) #[⟨.obj k.c, false, true⟩, ⟨.obj k.c, true, true⟩] ∧ ∃ v m, Goes P false (RW ty Wg k.box 1 0 0) DC0 (AtR0 P ty Wg k.box 1 0 1 v) m g₂ (w.shut k.c s r tm)
  | v :: vs, g, w => g.status = .running ∧ ∃ g₂ z, stepG P false g w = .comm g₂ #[scase k.c v z] true .send w #[] ∧
      ∀ w₁, RK ty Wg rel k.cap w w₁ → ∃ m, Goes P false (RK ty Wg rel k.cap) (DK rel k.cap) (SendK k vs) m (Conc.served g₂ undef) w₁

/-! ### the starter in Wait -/
section
variable (Fin : Goroutine → World → Prop)
def XAcq (g : Goroutine) (w : World) : Prop := g.status = .running ∧ ∃ g', stepG P true g w = .go g' w #[mk (.acquire (stA Wg))] ∧ ∀ w₁, RC ty Wg Wg w w₁ → WgAt ty Wg w₁ 0 0 → Fin g' w₁
def XKe (g : Goroutine) (w : World) : Prop := g.status = .running ∧ ∃ g', stepG P true g w = .go g' w #[mk .enable] ∧ ∃ m, Goes P true (RC ty Wg Wg) (DQ Wg) (XAcq P ty Wg Fin) m g' w
def XW4 (g : Goroutine) (w : World) : Prop := g.status = .running ∧ (WgAt ty Wg w 0 0 → ∃ g', stepG P true g w = .go g' w #[rd (stA Wg)] ∧ ∃ m, Goes P true (RC ty Wg Wg) (DQ Wg) (XKe P ty Wg Fin) m g' w)
def XW3 (g : Goroutine) (w : World) : Prop := g.status = .running ∧ g.offers = none ∧
  ((∃ st, WgAt ty Wg w st 0) → stepG P true g w = .go { g with status := .blocked } w #[]) ∧
  (WgAt ty Wg w 0 1 → ∃ g', stepG P true g w = .go g' (w.setCell (smA Wg) (.int .u32 0)) (semEvents (smA Wg)) ∧ ∃ m, Goes P true (RC ty Wg Wg) (DQ Wg) (XW4 P ty Wg Fin) m g' (w.setCell (smA Wg) (.int .u32 0)))
def XW2 (An : Goroutine → World → Prop) (vs : Nat) (g : Goroutine) (w : World) : Prop := g.status = .running ∧ ∀ v : Nat, v < 2147483648 → WgAt ty Wg w (v * KK) 0 →
  (v = vs → ∃ g', stepG P true g w = .go g' (w.setCell (stA Wg) (.int .u64 (v * KK + 1))) #[rd (stA Wg), wr (stA Wg)] ∧ ∃ m, Goes P true (RC ty Wg Wg) (DQ Wg) (XW3 P ty Wg Fin) m g' (w.setCell (stA Wg) (.int .u64 (v * KK + 1)))) ∧
  (v ≠ vs → ∃ g', stepG P true g w = .go g' w #[rd (stA Wg)] ∧ ∃ m, Goes P true (RC ty Wg Wg) (DQ Wg) An m g' w)
def XW1 (An : Goroutine → World → Prop) (g : Goroutine) (w : World) : Prop := g.status = .running ∧ ∀ v : Nat, v < 2147483648 → WgAt ty Wg w (v * KK) 0 → ∃ g', stepG P true g w = .go g' w #[rd (stA Wg)] ∧
  (v = 0 → ∃ m, Goes P true (RC ty Wg Wg) (DQ Wg) (XKe P ty Wg Fin) m g' w) ∧ (v ≠ 0 → ∃ m, Goes P true (RC ty Wg Wg) (DQ Wg) (XW2 P ty Wg Fin An v) m g' w)
def XKd (An : Goroutine → World → Prop) (g : Goroutine) (w : World) : Prop := g.status = .running ∧ ∃ g', stepG P true g w = .go g' w #[mk .disable] ∧ ∃ m, Goes P true (RC ty Wg Wg) (DQ Wg) An m g' w
end

/-! ### the starter receives -/
section
variable (Sh : Nat → Bool) (z : Value) (Fin : Goroutine → World → Prop) (An : Goroutine → World → Prop)
def AtRecv (c : Nat) (Next : Value → Goroutine → World → Prop) (g : Goroutine) (w : World) : Prop :=
  g.status = .running ∧ stepG P true g w = .comm (core g) #[rcase c z] true (.recv true) w #[] ∧ ∀ w₁, RR ty Wg w w₁ → ∀ v, Next v (Conc.served (core g) v) w₁
def kpR (Wg : Nat) (ks : List Kid) (b : Nat) : Prop := keptBy ks b ∨ b = Wg
/-- From channel c these values; then it is found closed. -/
def RcvOne (ks : List Kid) (c : Nat) (Next : Goroutine → World → Prop) : List Value → Goroutine → World → Prop
  | [], g, w => ∃ m, Goes P true (RR ty Wg) (DC ty Wg rel Sh (kpR Wg ks)) (AtRecv P ty Wg z c fun v g₂ w₂ => v = .tuple #[z, .bool false] → Next g₂ w₂) m g w
  | x :: xs, g, w => ∃ m, Goes P true (RR ty Wg) (DC ty Wg rel Sh (kpR Wg ks)) (AtRecv P ty Wg z c fun v g₂ w₂ => v = .tuple #[x, .bool true] → RcvOne ks c Next xs g₂ w₂) m g w
/-- Channel by channel; then Wait. -/
def RcvS (ks : List Kid) : List (Nat × List Value) → Goroutine → World → Prop
  | [], g, w => ∃ m, Goes P true (RC ty Wg Wg) (DQ Wg) (XKd P ty Wg An) m g w
  | (c, l) :: ls, g, w => RcvOne P ty Wg rel Sh z ks c (RcvS ks ls) l g w

/-! ### the starter starts -/
variable (n : Nat) (V : Nat → List Value)
/-- What is known of a worker that is being started. -/
structure KidOk (ks : List Kid) (k : Kid) (w : World) : Prop where
  chan : ∃ s r tm, w.heap[k.c]? = some (.chan 0 #[] false s r tm)
  new : ∀ k' ∈ ks, k'.c ≠ k.c
  cap : ∀ b, k.cap b → b ≠ Wg ∧ Sh b = false ∧ (∃ c e f, w.heap[b]? = some (.cells c e f))
  pay : PayAt k.box 1 w
  box : k.cap k.box
  shc : Sh k.c = false
  lo : Wg < k.c
def AtMark (mkk : Mark) (Next : Goroutine → World → Prop) (g : Goroutine) (w : World) : Prop := g.status = .running ∧ ∃ g', stepG P true g w = .go g' w #[mk mkk] ∧ Next g' w
def AtGo (ks : List Kid) (Next : List Kid → Goroutine → World → Prop) (g : Goroutine) (w : World) : Prop :=
  g.status = .running ∧ ∃ k g' child, stepG P true g w = .spawn g' child w #[] ∧ child.status = .running ∧ KidOk Wg Sh ks k w ∧
    (∃ m, Goes P false (RK ty Wg rel k.cap) (DK rel k.cap) (SendK P ty Wg rel k (V ks.length)) m child w) ∧ Next (ks ++ [k]) g' w
abbrev GS (ks : List Kid) (Stop : Goroutine → World → Prop) (m : Nat) (g : Goroutine) (w : World) : Prop := Goes P true RS (DC ty Wg rel Sh (keptBy ks)) Stop m g w
def listsOf (V : Nat → List Value) : Nat → List Kid → List (Nat × List Value)
  | _, [] => []
  | i, k :: ks => (k.c, V i) :: listsOf V (i + 1) ks
def StartS : Nat → List Kid → Goroutine → World → Prop
  | 0, ks, g, w => WgAt ty Wg w (ks.length * KK) 0 ∧ RcvS P ty Wg rel Sh z An ks (listsOf V 0 ks) g w
  | r + 1, ks, g, w => ∃ m, GS P ty Wg rel Sh ks (AtMark P .disable fun g w => ∃ m, GS P ty Wg rel Sh ks (AtMark P .enable fun g w => ∃ m, GS P ty Wg rel Sh ks (AtGo P ty Wg rel Sh V ks (StartS r)) m g w) m g w) m g w
def G2 (r : Nat) (ks : List Kid) := AtGo P ty Wg rel Sh V ks (StartS P ty Wg rel Sh z An V r)
def G3 (r : Nat) (ks : List Kid) := AtMark P .enable fun g w => ∃ m, GS P ty Wg rel Sh ks (G2 P ty Wg rel Sh z An V r ks) m g w
def G5 (r : Nat) (ks : List Kid) := AtMark P .disable fun g w => ∃ m, GS P ty Wg rel Sh ks (G3 P ty Wg rel Sh z An V r ks) m g w
theorem startS_succ (r : Nat) (ks : List Kid) (g : Goroutine) (w : World) : StartS P ty Wg rel Sh z An V (r + 1) ks g w ↔ ∃ m, GS P ty Wg rel Sh ks (G5 P ty Wg rel Sh z An V r ks) m g w := by
  rw [StartS]; exact Iff.rfl
end
end
end Go.Ph

namespace Go.Br
open Go
set_option linter.unusedVariables false
set_option linter.unusedSimpArgs false

/-- The second world is the first, but for its tape, and its shunned blocks (rows of cells) are empty. -/
structure Rel (Sh : Nat → Bool) (w u : World) : Prop where
  os : u.os = w.os
  output : u.output = w.output
  size : u.heap.size = w.heap.size
  same : ∀ b, Sh b = false → u.heap[b]? = w.heap[b]?
  shun : ∀ b, Sh b = true → ∃ c e f, w.heap[b]? = some (.cells c e f) ∧ u.heap[b]? = some (.cells #[] e f)

/-- What an entry of the trace may say: a place of no shunned block, of a block below B; of marks those alone that name no place. -/
def OkEv (Sh : Nat → Bool) (B : Nat) (e : Event) : Prop :=
  match e.loc with
  | .cell a => Sh a.block = false ∧ a.block < B
  | .obj r => Sh r = false ∧ r < B
  | .mark (.extern _) | .mark .noRoom => True
  | _ => False

theorem OkEv.mono {Sh : Nat → Bool} {B B' : Nat} {e : Event} (h : OkEv Sh B e) (hb : B ≤ B') : OkEv Sh B' e := by
  obtain ⟨l, wr, sy⟩ := e
  cases l with
  | cell a => exact ⟨h.1, Nat.lt_of_lt_of_le h.2 hb⟩
  | obj r => exact ⟨h.1, Nat.lt_of_lt_of_le h.2 hb⟩
  | output => exact h
  | goroutines => exact h
  | mark m => cases m <;> exact h

/-- The answers that the first run reads are the second's. -/
def Win (w w' u : World) : Prop := ∀ i, i < w'.drawn - w.drawn → ∀ q, u.tape (u.drawn + i) q = w.tape (w.drawn + i) q

/-- A block that is a row of cells. -/
def IsCells (w : World) (b : Nat) : Prop := ∃ c e f, w.heap[b]? = some (.cells c e f)

/-- What a run leaves as it was, and what only grows. -/
structure Grew (w w' : World) : Prop where
  tape : w'.tape = w.tape
  drawn : w.drawn ≤ w'.drawn
  size : w.heap.size ≤ w'.heap.size
  rows : ∀ b, IsCells w b → IsCells w' b

theorem Grew.refl (w : World) : Grew w w := ⟨rfl, Nat.le_refl _, Nat.le_refl _, fun _ h => h⟩
theorem Grew.trans {w w' w'' : World} (h : Grew w w') (k : Grew w' w'') : Grew w w'' := ⟨k.tape.trans h.tape, Nat.le_trans h.drawn k.drawn, Nat.le_trans h.size k.size, fun b x => k.rows b (h.rows b x)⟩

/-- The two runs agree. -/
structure Agree (Sh : Nat → Bool) (w w' u u' : World) (Δ : Array Event) : Prop where
  rel : Rel Sh w' u'
  grewW : Grew w w'
  tapeU : u'.tape = u.tape
  drawnU : u'.drawn = u.drawn + (w'.drawn - w.drawn)
  evs : ∀ e ∈ Δ, OkEv Sh w'.heap.size e

/-- How the second run may halt: by a fault that ends the run. -/
def Dead (h : Halt) : Prop := (∃ s, h = .stuck s) ∨ ∃ s, h = .unsupported (.unsafePointer s)

def Sim {α : Type} (P : Program) (t : Sem α) : Prop :=
  ∀ (Sh : Nat → Bool) (w u : World) (es : Array Event) (a : α) (w' : World) (es' : Array Event), Rel Sh w u → t.runT P w es = (.ok a w', es') → Grew w w' ∧ (Win w w' u →
    ∃ Δ, es' = es ++ Δ ∧ ∀ fs, ((∃ b, Sh b = true) ∧ ∃ h u' fs', t.runT P u fs = (.halt h u', fs') ∧ Dead h) ∨ ∃ u', t.runT P u fs = (.ok a u', fs ++ Δ) ∧ Agree Sh w w' u u' Δ)

section
variable {α β : Type} {P : Program}

theorem sim_pure (a : α) : Sim P (.pure a) := by
  intro Sh w u es b w' es' hr h
  simp only [Sem.runT, Prod.mk.injEq, Result.ok.injEq] at h
  obtain ⟨⟨rfl, rfl⟩, rfl⟩ := h
  exact ⟨.refl _, fun _ => ⟨#[], by simp, fun fs => .inr ⟨u, by simp [Sem.runT], hr, .refl _, rfl, by simp, by simp⟩⟩⟩

theorem sim_halt (h : Halt) : Sim P (.halt h : Sem α) := by
  intro Sh w u es b w' es' hr e
  simp [Sem.runT] at e

/-- The first world takes a step to w1 that lists Δ1, the second to u1, or halts. -/
theorem sim_step {Sh : Nat → Bool} {w u w1 u1 : World} {es : Array Event} {a : α} {w' : World} {es' Δ1 : Array Event} {t t' : Sem α}
    (hw : t.runT P w es = t'.runT P w1 (es ++ Δ1)) (hu : ∀ fs, t.runT P u fs = t'.runT P u1 (fs ++ Δ1)) (hr1 : Rel Sh w1 u1) (hg : Grew w w1) (htu : u1.tape = u.tape) (hdu : u1.drawn = u.drawn + (w1.drawn - w.drawn))
    (hev : ∀ e ∈ Δ1, OkEv Sh w1.heap.size e) (hf : Sim P t') (h : t.runT P w es = (.ok a w', es')) :
    Grew w w' ∧ (Win w w' u → ∃ Δ, es' = es ++ Δ ∧ ∀ fs, ((∃ b, Sh b = true) ∧ ∃ h u' fs', t.runT P u fs = (.halt h u', fs') ∧ Dead h) ∨ ∃ u', t.runT P u fs = (.ok a u', fs ++ Δ) ∧ Agree Sh w w' u u' Δ) := by
  rw [hw] at h
  obtain ⟨hg', hw'⟩ := hf Sh w1 u1 _ a w' es' hr1 h
  refine ⟨hg.trans hg', fun win => ?_⟩
  have win1 : Win w1 w' u1 := fun i hi q => by
    have d1 := hg.drawn
    have d2 := hg'.drawn
    have := win ((w1.drawn - w.drawn) + i) (by omega) q
    rw [htu, hdu, hg.tape]
    rw [show w1.drawn + i = w.drawn + ((w1.drawn - w.drawn) + i) by omega, show u.drawn + (w1.drawn - w.drawn) + i = u.drawn + ((w1.drawn - w.drawn) + i) by omega]
    exact this
  obtain ⟨Δ, he, hd⟩ := hw' win1
  refine ⟨Δ1 ++ Δ, by rw [he, Array.append_assoc], fun fs => ?_⟩
  rw [hu fs]
  rcases hd (fs ++ Δ1) with hl | ⟨u', e, ag⟩
  · exact .inl hl
  · refine .inr ⟨u', by rw [e, Array.append_assoc], ag.rel, hg.trans hg', ag.tapeU.trans htu, ?_, fun x hx => ?_⟩
    · have d1 := hg.drawn
      have d2 := hg'.drawn
      rw [ag.drawnU, hdu]; omega
    · rcases Array.mem_append.1 hx with hx | hx
      · exact (hev x hx).mono hg'.size
      · exact ag.evs x hx

/-- The second run halts at once. -/
theorem sim_stops {Sh : Nat → Bool} {w u w' : World} {es es' : Array Event} {a : α} {t : Sem α} {b : Nat} (hb : Sh b = true) (hg : Grew w w') (hes : ∃ Δ, es' = es ++ Δ) (hu : ∀ fs, ∃ h u' fs', t.runT P u fs = (.halt h u', fs') ∧ Dead h) :
    Grew w w' ∧ (Win w w' u → ∃ Δ, es' = es ++ Δ ∧ ∀ fs, ((∃ b, Sh b = true) ∧ ∃ h u' fs', t.runT P u fs = (.halt h u', fs') ∧ Dead h) ∨ ∃ u', t.runT P u fs = (.ok a u', fs ++ Δ) ∧ Agree Sh w w' u u' Δ) := by
  obtain ⟨Δ, he⟩ := hes
  exact ⟨hg, fun _ => ⟨Δ, he, fun fs => .inl ⟨⟨b, hb⟩, hu fs⟩⟩⟩

theorem viewStore_size {p : Program} {w w' : World} {at_ : Addr} {u : TypeId} {k : Addr} {v : Value} {at' : Bool} {l : List Addr} (h : w.viewStore p at_ u k v at' = .ok (w', l)) : ∃ c e f, w' = { w with heap := w.heap.setIfInBounds at_.block (.cells c e f) } := by
  unfold World.viewStore at h
  simp only [bind, Except.bind, pure, Except.pure] at h
  repeat' split at h
  all_goals first | (cases h; exact ⟨_, _, _, rfl⟩) | cases h

theorem farStore_size {p : Program} {w w' : World} {a : Addr} {v : Value} {at' : Bool} {l : List Addr} (h : w.farStore p a v at' = .ok (w', l)) : ∃ b c e f, w' = { w with heap := w.heap.setIfInBounds b (.cells c e f) } := by
  unfold World.farStore at h
  split at h
  · split at h
    · rename_i r hr
      cases h
      obtain ⟨c, e, f, rfl⟩ := viewStore_size hr
      exact ⟨_, _, _, _, rfl⟩
    · cases h
  · cases h

theorem ask_keeps {α : Type} (a : Ask α) : ∀ w : World, ∃ d, w.drawn ≤ d ∧ (w.ask a).2 = { w with drawn := d } := by
  induction a with
  | done a => exact fun w => ⟨w.drawn, Nat.le_refl _, rfl⟩
  | ask what range k ih =>
    intro w
    unfold World.ask
    dsimp only
    split
    · exact ih _ w
    · obtain ⟨d, hd, he⟩ := ih ((Question.extern what range).cut (w.tape w.drawn (Question.extern what range))) { w with drawn := w.drawn + 1 }
      exact ⟨d, by dsimp only at hd; omega, he⟩

theorem sys_keeps (w : World) (c : Sys) : Grew w (w.sys c).2 := by
  unfold World.sys
  obtain ⟨d, hd, he⟩ := ask_keeps (Kernel.perform c w.os) w
  split
  · exact .refl _
  · rename_i r os w1 _ h
    have : w1 = { w with drawn := d } := by rw [← he, h]
    subst this
    exact ⟨rfl, hd, Nat.le_refl _, fun _ h => h⟩

theorem grew_put {w : World} {b : Nat} {o : Obj} (ho : (∃ c e f, o = .cells c e f) ∨ ¬ IsCells w b) : Grew w { w with heap := w.heap.setIfInBounds b o } := by
  refine ⟨rfl, Nat.le_refl _, by simp, fun x hx => ?_⟩
  by_cases hb : b = x
  · subst hb
    rcases ho with ⟨c, e, f, rfl⟩ | ho
    · obtain ⟨c', e', f', h⟩ := hx
      have hlt := (Array.getElem?_eq_some_iff.1 h).1
      exact ⟨c, e, f, by simp [Array.getElem?_setIfInBounds, hlt]⟩
    · exact absurd hx ho
  · obtain ⟨c', e', f', h⟩ := hx
    exact ⟨c', e', f', by dsimp only; rw [Array.getElem?_setIfInBounds_ne hb]; exact h⟩
theorem grew_push {w : World} {o : Obj} : Grew w { w with heap := w.heap.push o } := by
  refine ⟨rfl, Nat.le_refl _, by simp, fun x hx => ?_⟩
  obtain ⟨c', e', f', h⟩ := hx
  have hlt := (Array.getElem?_eq_some_iff.1 h).1
  exact ⟨c', e', f', by dsimp only; rw [Array.getElem?_push, if_neg (by omega)]; exact h⟩
theorem grew_setCell {w : World} {a : Addr} {v : Value} : Grew w (w.setCell a v) := by
  refine ⟨rfl, Nat.le_refl _, by simp [World.setCell], fun x hx => ?_⟩
  obtain ⟨c', e', f', h⟩ := hx
  simp only [IsCells, World.setCell, Array.getElem?_modify]
  split
  · rw [h]; exact ⟨_, _, _, rfl⟩
  · exact ⟨_, _, _, h⟩
theorem grew_freeze {w : World} {a : Addr} {n : Nat} : Grew w (w.freeze a n) := by
  unfold World.freeze
  split
  · exact .refl _
  · refine ⟨rfl, Nat.le_refl _, by simp, fun x hx => ?_⟩
    obtain ⟨c', e', f', h⟩ := hx
    simp only [IsCells, Array.getElem?_modify]
    split
    · rw [h]; exact ⟨_, _, _, rfl⟩
    · exact ⟨_, _, _, h⟩
theorem grew_drew {w : World} : Grew w { w with drawn := w.drawn + 1 } := ⟨rfl, Nat.le_succ _, Nat.le_refl _, fun _ h => h⟩
theorem not_cells {w : World} {r : Nat} {o : Obj} (h : w.heap[r]? = some o) (hn : ∀ c e f, o ≠ .cells c e f) : ¬ IsCells w r := by
  rintro ⟨c, e, f, h'⟩
  rw [h] at h'
  exact hn _ _ _ (Option.some.inj h')

/-- What a run alone keeps, whatever the tree. -/
theorem run_keeps (t : Sem α) : ∀ (w : World) (es : Array Event) (a : α) (w' : World) (es' : Array Event), t.runT P w es = (.ok a w', es') → Grew w w' ∧ ∃ Δ, es' = es ++ Δ := by
  have fin : ∀ {w w1 w' : World} {es es1 es' : Array Event}, Grew w w1 → (∃ Δ, es1 = es ++ Δ) → Grew w1 w' ∧ (∃ Δ, es' = es1 ++ Δ) → Grew w w' ∧ ∃ Δ, es' = es ++ Δ := by
    rintro w w1 w' es es1 es' hg ⟨Δ, rfl⟩ ⟨hg', Δ', rfl⟩
    exact ⟨hg.trans hg', Δ ++ Δ', by rw [Array.append_assoc]⟩
  have push : ∀ (es : Array Event) (e : Event), ∃ Δ, es.push e = es ++ Δ := fun es e => ⟨#[e], by simp⟩
  have nil : ∀ (es : Array Event), ∃ Δ, es = es ++ Δ := fun es => ⟨#[], by simp⟩
  induction t with
  | pure a =>
    intro w es b w' es' h
    simp only [Sem.runT, Prod.mk.injEq, Result.ok.injEq] at h
    obtain ⟨⟨rfl, rfl⟩, rfl⟩ := h
    exact ⟨.refl _, nil es⟩
  | load m a k ih =>
    intro w es b w' es' h
    simp only [Sem.runT] at h
    split at h
    · exact fin (.refl _) (push _ _) (ih _ _ _ _ _ _ h)
    · split at h
      · exact fin (.refl _) ⟨_, rfl⟩ (ih _ _ _ _ _ _ h)
      · cases h
  | store m a v k ih =>
    intro w es b w' es' h
    have main : ∀ {x}, x = (match w.cell? a with
      | some _ => if w.frozen? a then (.halt (.unsupported (.unsafePointer "a write to bytes that a string shares")) w, es)
        else k.runT P (w.setCell a v) (es.push ⟨.cell a, true, m == .atomic⟩)
      | none => match w.farStore P a v (m == .atomic) with
        | .ok (w, touched) => k.runT P w (es ++ touched.toArray.map (⟨.cell ·, true, m == .atomic⟩))
        | .error h => (.halt h w, es) : Result _ × Array Event) → x = (.ok b w', es') → Grew w w' ∧ ∃ Δ, es' = es ++ Δ := by
      rintro x rfl h
      split at h
      · split at h
        · cases h
        · exact fin grew_setCell (push _ _) (ih _ _ _ _ _ h)
      · split at h
        · rename_i w1 l hs
          obtain ⟨b1, c1, e1, f1, rfl⟩ := farStore_size hs
          exact fin (grew_put (.inl ⟨_, _, _, rfl⟩)) ⟨_, rfl⟩ (ih _ _ _ _ _ h)
        · cases h
    cases v <;> first | exact main rfl h | cases h
  | new o k ih =>
    intro w es b w' es' h
    simp only [Sem.runT] at h
    exact fin grew_push (nil es) (ih _ _ _ _ _ _ h)
  | shape r k ih =>
    intro w es b w' es' h
    exact ih _ _ _ _ _ _ h
  | freeze a n k ih =>
    intro w es b w' es' h
    simp only [Sem.runT] at h
    exact fin grew_freeze (nil es) (ih _ _ _ _ _ h)
  | frozen a k ih =>
    intro w es b w' es' h
    exact ih _ _ _ _ _ _ h
  | getObj r k ih =>
    intro w es b w' es' h
    simp only [Sem.runT] at h
    split at h
    · cases h
    · exact fin (.refl _) (push _ _) (ih _ _ _ _ _ _ h)
    · cases h
  | setObj r o k ih =>
    intro w es b w' es' h
    simp only [Sem.runT] at h
    split at h
    · cases h
    · rename_i o hno ho
      exact fin (grew_put (.inr (not_cells ho hno)))  (push _ _) (ih _ _ _ _ _ h)
    · cases h
  | choose q k ih =>
    intro w es b w' es' h
    simp only [Sem.runT] at h
    split at h
    · exact ih _ _ _ _ _ _ h
    · exact fin (w1 := { w with drawn := w.drawn + 1 }) grew_drew (nil es) (ih _ _ _ _ _ _ h)
  | sys c k ih =>
    intro w es b w' es' h
    exact fin (sys_keeps w c) (push _ _) (ih _ _ _ _ _ _ h)
  | program k ih =>
    intro w es b w' es' h
    exact ih _ _ _ _ _ _ h
  | mark m k ih =>
    intro w es b w' es' h
    exact fin (.refl _) (push _ _) (ih _ _ _ _ _ h)
  | halt h =>
    intro w es b w' es' e
    cases e

theorem Rel.cell {Sh : Nat → Bool} {w u : World} (h : Rel Sh w u) {a : Addr} (ha : Sh a.block = false) : u.cell? a = w.cell? a := by
  unfold World.cell?; rw [h.same _ ha]
theorem Rel.frozenEq {Sh : Nat → Bool} {w u : World} (h : Rel Sh w u) (a : Addr) : u.frozen? a = w.frozen? a := by
  unfold World.frozen?
  cases ha : Sh a.block with
  | false => rw [h.same _ ha]
  | true => obtain ⟨c, e, f, h1, h2⟩ := h.shun _ ha; rw [h1, h2]
theorem lt_of_heap {w : World} {b : Nat} {o : Obj} (h : w.heap[b]? = some o) : b < w.heap.size := (Array.getElem?_eq_some_iff.1 h).1
theorem lt_of_cell {w : World} {a : Addr} {v : Value} (h : w.cell? a = some v) : a.block < w.heap.size := by
  unfold World.cell? at h
  split at h
  · rename_i hh; exact lt_of_heap hh
  · cases h

/-- The second run at a shunned block's cell. -/
theorem far_shun {Sh : Nat → Bool} {w u : World} (h : Rel Sh w u) {a : Addr} (ha : Sh a.block = true) (m : Bool) : u.cell? a = none ∧ (∃ x, u.farLoad P a m = .error (.stuck x)) ∧ ∀ v, ∃ x, u.farStore P a v m = .error (.stuck x) := by
  obtain ⟨c, e, f, _, h2⟩ := h.shun _ ha
  refine ⟨?_, ?_, fun v => ?_⟩
  · unfold World.cell?; rw [h2]; dsimp only; split <;> simp
  · unfold World.farLoad World.noCell; rw [h2]; exact ⟨_, rfl⟩
  · unfold World.farStore World.noCell; rw [h2]; exact ⟨_, rfl⟩

/-- Two heaps that part nowhere but as 'Rel' says, one block written in both. -/
theorem Rel.put {Sh : Nat → Bool} {w u : World} (h : Rel Sh w u) {b : Nat} (hb : Sh b = false) (o : Obj) : Rel Sh { w with heap := w.heap.setIfInBounds b o } { u with heap := u.heap.setIfInBounds b o } := by
  refine ⟨h.os, h.output, by simpa using h.size, fun c hc => ?_, fun c hc => ?_⟩
  · dsimp only
    rw [Array.getElem?_setIfInBounds, Array.getElem?_setIfInBounds, h.size, h.same c hc]
  · have hne : b ≠ c := fun e => by subst e; rw [hb] at hc; cases hc
    dsimp only
    rw [Array.getElem?_setIfInBounds_ne hne, Array.getElem?_setIfInBounds_ne hne]
    exact h.shun c hc

theorem Rel.setCell {Sh : Nat → Bool} {w u : World} (h : Rel Sh w u) {a : Addr} (ha : Sh a.block = false) (v : Value) : Rel Sh (w.setCell a v) (u.setCell a v) := by
  refine ⟨h.os, h.output, by simpa [World.setCell] using h.size, fun c hc => ?_, fun c hc => ?_⟩
  · simp only [World.setCell, Array.getElem?_modify, h.same c hc]
  · have hne : a.block ≠ c := fun e => by subst e; rw [ha] at hc; cases hc
    simp only [World.setCell, Array.getElem?_modify, if_neg hne]
    exact h.shun c hc

theorem Rel.freeze {Sh : Nat → Bool} {w u : World} (h : Rel Sh w u) (a : Addr) (n : Nat) : Rel Sh (w.freeze a n) (u.freeze a n) := by
  unfold World.freeze
  split
  · exact h
  · refine ⟨h.os, h.output, by simpa using h.size, fun c hc => ?_, fun c hc => ?_⟩
    · simp only [Array.getElem?_modify, h.same c hc]
    · obtain ⟨cs, e, f, h1, h2⟩ := h.shun c hc
      simp only [Array.getElem?_modify]
      split
      · rw [h1, h2]
        exact ⟨_, _, _, rfl, rfl⟩
      · exact ⟨cs, e, f, h1, h2⟩

theorem Rel.push {Sh : Nat → Bool} {w u : World} (h : Rel Sh w u) (o : Obj) : Rel Sh { w with heap := w.heap.push o } { u with heap := u.heap.push o } := by
  refine ⟨h.os, h.output, by simp [h.size], fun c hc => ?_, fun c hc => ?_⟩
  · dsimp only
    rw [Array.getElem?_push, Array.getElem?_push, h.size, h.same c hc]
  · obtain ⟨cs, e, f, h1, h2⟩ := h.shun c hc
    have l1 := lt_of_heap h1
    dsimp only
    rw [Array.getElem?_push, Array.getElem?_push, if_neg (by omega), if_neg (by rw [h.size]; omega)]
    exact ⟨cs, e, f, h1, h2⟩

theorem Rel.drew {Sh : Nat → Bool} {w u : World} (h : Rel Sh w u) : Rel Sh { w with drawn := w.drawn + 1 } { u with drawn := u.drawn + 1 } := ⟨h.os, h.output, h.size, h.same, h.shun⟩
end
end Go.Br

namespace Go.Br
open Go
set_option linter.unusedVariables false
set_option linter.unusedSimpArgs false
section
variable {α β : Type} {P : Program}

theorem bytes_pos {v : Value} {bs : List UInt8} (h : v.bytes? = some bs) : 0 < bs.length := by
  have le : ∀ n x, 0 < n → 0 < (leBytes n x).length := by intro n x hn; cases n with | zero => omega | succ n => simp [leBytes]
  cases v <;> simp only [Value.bytes?, Option.some.injEq, reduceCtorEq] at h
  · subst h; simp
  · subst h; exact le _ _ (by rename_i k _; cases k <;> decide)
  · subst h; exact le _ _ (by rename_i k _; cases k <;> decide)
  · subst h
    rename_i k _ _
    have := le k.bytes ‹_› (by cases k <;> decide)
    simp only [List.length_append]; omega

theorem seenCells_empty {p : Program} {e : TypeId} {n x stop : Nat} (h : x < stop) : ∃ y, seenCells p #[] e n x stop = .error y := by
  cases n with
  | zero => exact ⟨_, rfl⟩
  | succ n =>
    unfold seenCells
    rw [if_neg (by omega)]
    dsimp only
    split
    · exact ⟨_, rfl⟩
    · split
      · exact ⟨_, rfl⟩
      · simp

theorem seenCells_none {p : Program} {e : TypeId} {v : Value} {n : Nat} (h : Option.map (fun x : List UInt8 => x.length) v.bytes? = some n) (first : Nat) (r : List (Nat × Nat × List UInt8)) : seenCells p #[] e (n + 1) first (first + n) ≠ .ok r := by
  obtain ⟨bs, hb, hn⟩ := Option.map_eq_some_iff.1 h
  have := bytes_pos hb
  obtain ⟨y, hy⟩ := seenCells_empty (p := p) (e := e) (n := n + 1) (x := first) (stop := first + n) (by omega)
  rw [hy]; simp

theorem seen_empty {p : Program} {u : World} {at_ : Addr} {t e : TypeId} {f : Nat × Nat} {k : Addr} {m : Bool} (h : u.heap[at_.block]? = some (.cells #[] e f)) : ∃ x, u.seen p at_ t k m = .error x := by
  cases hs : u.seen p at_ t k m with
  | error x => exact ⟨x, rfl⟩
  | ok r =>
    exfalso
    unfold World.seen at hs
    rw [h] at hs
    simp only [bind, Except.bind, pure, Except.pure, throw, throwThe, MonadExceptOf.throw] at hs
    repeat' split at hs
    all_goals try cases hs
    all_goals exact seenCells_none ‹Option.map (fun x : List UInt8 => x.length) _ = some _› _ _ ‹_ = Except.ok _›

theorem seen_congr {p : Program} {w u : World} {at_ : Addr} (h : u.heap[at_.block]? = w.heap[at_.block]?) (t : TypeId) (k : Addr) (m : Bool) : u.seen p at_ t k m = w.seen p at_ t k m := by
  unfold World.seen; rw [h]
theorem seen_block {p : Program} {w : World} {at_ : Addr} {t : TypeId} {k : Addr} {m : Bool} {r} (h : w.seen p at_ t k m = .ok r) : ∃ c e f, w.heap[at_.block]? = some (.cells c e f) := by
  unfold World.seen at h
  simp only [bind, Except.bind, pure, Except.pure, throw, throwThe, MonadExceptOf.throw] at h
  repeat' split at h
  all_goals first | exact ⟨_, _, _, ‹_›⟩ | cases h

theorem viewLoad_empty {p : Program} {u : World} {at_ : Addr} {t e : TypeId} {f : Nat × Nat} {k : Addr} {m : Bool} (h : u.heap[at_.block]? = some (.cells #[] e f)) : ∃ x, u.viewLoad p at_ t k m = .error x := by
  obtain ⟨x, hx⟩ := seen_empty (p := p) (t := t) (k := k) (m := m) h
  exact ⟨x, by unfold World.viewLoad; rw [hx]; rfl⟩
theorem viewStore_empty {p : Program} {u : World} {at_ : Addr} {t e : TypeId} {f : Nat × Nat} {k : Addr} {v : Value} {m : Bool} (h : u.heap[at_.block]? = some (.cells #[] e f)) : ∃ x, u.viewStore p at_ t k v m = .error x := by
  obtain ⟨x, hx⟩ := seen_empty (p := p) (t := t) (k := k) (m := m) h
  unfold World.viewStore
  rw [hx]
  simp only [bind, Except.bind, pure, Except.pure]
  repeat' split
  all_goals exact ⟨_, rfl⟩

theorem viewLoad_congr {p : Program} {w u : World} {at_ : Addr} (h : u.heap[at_.block]? = w.heap[at_.block]?) (t : TypeId) (k : Addr) (m : Bool) : u.viewLoad p at_ t k m = w.viewLoad p at_ t k m := by
  unfold World.viewLoad; rw [seen_congr h]
theorem viewLoad_touched {p : Program} {w : World} {at_ : Addr} {t : TypeId} {k : Addr} {m : Bool} {v : Value} {l : List Addr} (h : w.viewLoad p at_ t k m = .ok (v, l)) : (∃ c e f, w.heap[at_.block]? = some (.cells c e f)) ∧ ∀ a ∈ l, a.block = at_.block := by
  unfold World.viewLoad at h
  cases hs : w.seen p at_ t k m with
  | error x => rw [hs] at h; cases h
  | ok r =>
    refine ⟨seen_block hs, ?_⟩
    rw [hs] at h
    simp only [bind, Except.bind, pure, Except.pure, throw, throwThe, MonadExceptOf.throw] at h
    repeat' split at h
    all_goals first | (cases h; done) | (simp only [Except.ok.injEq, Prod.mk.injEq] at h; obtain ⟨_, rfl⟩ := h; intro a ha; obtain ⟨x, _, rfl⟩ := List.mem_map.1 ha; rfl)
theorem no_throw {γ : Type} {s : String} {v : γ} : ¬ (MonadExcept.throw s : Except String γ) = .ok v := by intro h; cases h
theorem viewStore_congr {p : Program} {w u : World} {at_ : Addr} {t : TypeId} {k : Addr} {v : Value} {m : Bool} (h : u.heap[at_.block]? = w.heap[at_.block]?) {w' : World} {l : List Addr} (hw : w.viewStore p at_ t k v m = .ok (w', l)) :
    ∃ o, (∃ c e f, o = .cells c e f) ∧ w' = { w with heap := w.heap.setIfInBounds at_.block o } ∧ u.viewStore p at_ t k v m = .ok ({ u with heap := u.heap.setIfInBounds at_.block o }, l) ∧ (∃ c e f, w.heap[at_.block]? = some (.cells c e f)) ∧ ∀ a ∈ l, a.block = at_.block := by
  unfold World.viewStore at hw ⊢
  rw [seen_congr h]
  cases hs : w.seen p at_ t k m with
  | error x => rw [hs] at hw; simp only [bind, Except.bind] at hw; split at hw <;> cases hw
  | ok r =>
    have hb := seen_block hs
    rw [hs] at hw
    simp only [bind, Except.bind, pure, Except.pure, throw, throwThe, MonadExceptOf.throw] at hw ⊢
    repeat' split at hw
    all_goals try (exact absurd ‹MonadExcept.throw _ = Except.ok _› no_throw)
    all_goals try (cases hw; done)
    all_goals
      simp only [Except.ok.injEq, Prod.mk.injEq] at hw
      obtain ⟨rfl, rfl⟩ := hw
      refine ⟨_, ⟨_, _, _, rfl⟩, rfl, ?_, hb, fun a ha => ?_⟩
      · simp only [*]
        rfl
      · obtain ⟨x, _, rfl⟩ := List.mem_map.1 ha
        rfl

/-! ### the primitives -/

theorem okEv_cell {Sh : Nat → Bool} {B : Nat} {a : Addr} {wr sy : Bool} (h : Sh a.block = false) (hb : a.block < B) : OkEv Sh B ⟨.cell a, wr, sy⟩ := ⟨h, hb⟩
theorem okEv_obj {Sh : Nat → Bool} {B r : Nat} {wr sy : Bool} (h : Sh r = false) (hb : r < B) : OkEv Sh B ⟨.obj r, wr, sy⟩ := ⟨h, hb⟩
theorem okEv_one {Sh : Nat → Bool} {B : Nat} {x : Event} (h : OkEv Sh B x) : ∀ e ∈ #[x], OkEv Sh B e := by intro e he; rw [Array.mem_singleton.1 he]; exact h
theorem okEv_map {Sh : Nat → Bool} {B b : Nat} {l : List Addr} {wr sy : Bool} (hl : ∀ a ∈ l, a.block = b) (hs : Sh b = false) (hb : b < B) : ∀ e ∈ l.toArray.map (fun a => (⟨.cell a, wr, sy⟩ : Event)), OkEv Sh B e := by
  intro e he
  obtain ⟨a, ha, rfl⟩ := Array.mem_map.1 he
  have := hl a (by simpa using ha)
  exact ⟨by rw [this]; exact hs, by rw [this]; exact hb⟩

theorem push_eq (es : Array Event) (e : Event) : es.push e = es ++ #[e] := by simp

theorem sim_load {m : Mode} {a : Addr} {k : Value → Sem α} (hk : ∀ v, Sim P (k v)) : Sim P (.load m a k) := by
  intro Sh w u es b w' es' hr h
  cases ha : Sh a.block with
  | true =>
    obtain ⟨f1, ⟨x, f2⟩, _⟩ := far_shun (P := P) hr ha (m == .atomic)
    exact sim_stops ha (run_keeps _ _ _ _ _ _ h).1 (run_keeps _ _ _ _ _ _ h).2 fun fs => ⟨_, _, _, by simp only [Sem.runT, f1, f2]; rfl, .inl ⟨_, rfl⟩⟩
  | false =>
    cases hc : w.cell? a with
    | some v =>
      have hc' : u.cell? a = some v := (hr.cell ha).trans hc
      exact sim_step (w1 := w) (u1 := u) (Δ1 := #[⟨.cell a, false, m == .atomic⟩]) (t' := k v) (by simp only [Sem.runT, hc, push_eq]) (fun fs => by simp only [Sem.runT, hc', push_eq]) hr (.refl _) rfl (by simp) (okEv_one (okEv_cell ha (lt_of_cell hc))) (hk v) h
    | none =>
      have hc' : u.cell? a = none := (hr.cell ha).trans hc
      cases hf : w.farLoad P a (m == .atomic) with
      | error x => simp only [Sem.runT, hc, hf] at h; cases h
      | ok r =>
        obtain ⟨v, l⟩ := r
        have hf0 := hf
        unfold World.farLoad at hf
        split at hf
        · rename_i at_ t hh
          split at hf
          · rename_i r hv
            cases hf
            have hu : u.heap[a.block]? = some (.view at_ t) := (hr.same _ ha).trans hh
            cases hb : Sh at_.block with
            | true =>
              obtain ⟨c, e, f, _, h2⟩ := hr.shun _ hb
              obtain ⟨x, hx⟩ := viewLoad_empty (p := P) (t := t) (k := a) (m := (m == .atomic)) h2
              exact sim_stops hb (run_keeps _ _ _ _ _ _ h).1 (run_keeps _ _ _ _ _ _ h).2 fun fs => ⟨_, _, _, by simp only [Sem.runT, hc', World.farLoad, hu, hx]; rfl, .inr ⟨_, rfl⟩⟩
            | false =>
              obtain ⟨⟨c, e, f, hcs⟩, hl⟩ := viewLoad_touched hv
              have hv' : u.viewLoad P at_ t a (m == .atomic) = .ok (v, l) := (viewLoad_congr (hr.same _ hb) t a _).trans hv
              exact sim_step (w1 := w) (u1 := u) (Δ1 := l.toArray.map (fun a => (⟨.cell a, false, m == .atomic⟩ : Event))) (t' := k v) (by simp only [Sem.runT, hc, hf0]) (fun fs => by simp only [Sem.runT, hc', World.farLoad, hu, hv']) hr (.refl _) rfl (by simp) (okEv_map hl hb (lt_of_heap hcs)) (hk v) h
          · cases hf
        · cases hf

theorem sim_store {m : Mode} {a : Addr} {v : Value} {k : Sem α} (hk : Sim P k) : Sim P (.store m a v k) := by
  by_cases hv : (∃ x, v = .agg x) ∨ ∃ x, v = .tuple x
  · intro Sh w u es b w' es' hr h
    rcases hv with ⟨x, rfl⟩ | ⟨x, rfl⟩ <;> simp [Sem.runT] at h
  have main : ∀ (w : World) (es : Array Event), (Sem.store m a v k).runT P w es = (match w.cell? a with
      | some _ => if w.frozen? a then (.halt (.unsupported (.unsafePointer "a write to bytes that a string shares")) w, es)
        else k.runT P (w.setCell a v) (es.push ⟨.cell a, true, m == .atomic⟩)
      | none => match w.farStore P a v (m == .atomic) with
        | .ok (w, touched) => k.runT P w (es ++ touched.toArray.map (⟨.cell ·, true, m == .atomic⟩))
        | .error h => (.halt h w, es) : Result α × Array Event) := by
    intro w es
    cases v <;> first | rfl | exact absurd (.inl ⟨_, rfl⟩) hv | exact absurd (.inr ⟨_, rfl⟩) hv
  intro Sh w u es b w' es' hr h
  cases ha : Sh a.block with
  | true =>
    obtain ⟨f1, _, f2⟩ := far_shun (P := P) hr ha (m == .atomic)
    obtain ⟨x, f2⟩ := f2 v
    exact sim_stops ha (run_keeps _ _ _ _ _ _ h).1 (run_keeps _ _ _ _ _ _ h).2 fun fs => ⟨_, _, _, by rw [main]; simp only [f1, f2]; rfl, .inl ⟨_, rfl⟩⟩
  | false =>
    cases hc : w.cell? a with
    | some v0 =>
      have hc' : u.cell? a = some v0 := (hr.cell ha).trans hc
      cases hz : w.frozen? a with
      | true => rw [main] at h; simp only [hc, hz, if_true] at h; cases h
      | false =>
        have hz' : u.frozen? a = false := (hr.frozenEq a).trans hz
        exact sim_step (w1 := w.setCell a v) (u1 := u.setCell a v) (Δ1 := #[⟨.cell a, true, m == .atomic⟩]) (t' := k) (by rw [main]; simp only [hc, hz, push_eq, Bool.false_eq_true, if_false]) (fun fs => by rw [main]; simp only [hc', hz', push_eq, Bool.false_eq_true, if_false]) (hr.setCell ha v) grew_setCell rfl (by simp [World.setCell]) (okEv_one (okEv_cell ha (by simpa [World.setCell] using lt_of_cell hc))) hk h
    | none =>
      have hc' : u.cell? a = none := (hr.cell ha).trans hc
      cases hf : w.farStore P a v (m == .atomic) with
      | error x => rw [main] at h; simp only [hc, hf] at h; cases h
      | ok r =>
        obtain ⟨w1, l⟩ := r
        have hf0 := hf
        unfold World.farStore at hf
        split at hf
        · rename_i at_ t hh
          split at hf
          · rename_i r hv
            cases hf
            have hu : u.heap[a.block]? = some (.view at_ t) := (hr.same _ ha).trans hh
            cases hb : Sh at_.block with
            | true =>
              obtain ⟨c, e, f, _, h2⟩ := hr.shun _ hb
              obtain ⟨x, hx⟩ := viewStore_empty (p := P) (t := t) (k := a) (v := v) (m := (m == .atomic)) h2
              exact sim_stops hb (run_keeps _ _ _ _ _ _ h).1 (run_keeps _ _ _ _ _ _ h).2 fun fs => ⟨_, _, _, by rw [main]; simp only [hc', World.farStore, hu, hx]; rfl, .inr ⟨_, rfl⟩⟩
            | false =>
              obtain ⟨o, hoc, rfl, hv', ⟨c, e, f, hcs⟩, hl⟩ := viewStore_congr (hr.same _ hb) hv
              exact sim_step (w1 := { w with heap := w.heap.setIfInBounds at_.block o }) (u1 := { u with heap := u.heap.setIfInBounds at_.block o }) (Δ1 := l.toArray.map (fun a => (⟨.cell a, true, m == .atomic⟩ : Event))) (t' := k) (by rw [main]; simp only [hc, hf0]) (fun fs => by rw [main]; simp only [hc', World.farStore, hu, hv']) (hr.put hb o) (grew_put (.inl hoc)) rfl (by simp) (okEv_map hl hb (by simpa using lt_of_heap hcs)) hk h
          · cases hf
        · cases hf

theorem sim_new {o : Obj} {k : Nat → Sem α} (hk : ∀ r, Sim P (k r)) : Sim P (.new o k) := by
  intro Sh w u es b w' es' hr h
  exact sim_step (w1 := { w with heap := w.heap.push o }) (u1 := { u with heap := u.heap.push o }) (Δ1 := #[]) (t' := k w.heap.size) (by simp [Sem.runT]) (fun fs => by simp [Sem.runT, hr.size]) (hr.push o) grew_push rfl (by simp) (by simp) (hk _) h

theorem sim_shape {r : Nat} {k : Option (TypeId × Nat) → Sem α} (hk : ∀ s, Sim P (k s)) (he : ∀ e n m, k (some (e, n)) = k (some (e, m))) : Sim P (.shape r k) := by
  intro Sh w u es b w' es' hr h
  have hs : k (u.shape? r) = k (w.shape? r) := by
    unfold World.shape?
    cases hb : Sh r with
    | false => rw [hr.same _ hb]
    | true => obtain ⟨c, e, f, h1, h2⟩ := hr.shun _ hb; rw [h1, h2]; exact he _ _ _
  exact sim_step (w1 := w) (u1 := u) (Δ1 := #[]) (t' := k (w.shape? r)) (by simp [Sem.runT]) (fun fs => by simp [Sem.runT, hs]) hr (.refl _) rfl (by simp) (by simp) (hk _) h

theorem sim_frozen {a : Addr} {k : Bool → Sem α} (hk : ∀ b, Sim P (k b)) : Sim P (.frozen a k) := by
  intro Sh w u es b w' es' hr h
  exact sim_step (w1 := w) (u1 := u) (Δ1 := #[]) (t' := k (w.frozen? a)) (by simp [Sem.runT]) (fun fs => by simp [Sem.runT, hr.frozenEq]) hr (.refl _) rfl (by simp) (by simp) (hk _) h

theorem sim_getObj {r : Nat} {k : Obj → Sem α} (hk : ∀ o, Sim P (k o)) : Sim P (.getObj r k) := by
  intro Sh w u es b w' es' hr h
  cases ha : Sh r with
  | true =>
    obtain ⟨c, e, f, h1, _⟩ := hr.shun _ ha
    simp only [Sem.runT, h1] at h; cases h
  | false =>
    cases hh : w.heap[r]? with
    | none => simp only [Sem.runT, hh] at h; cases h
    | some o =>
      have hu : u.heap[r]? = some o := (hr.same _ ha).trans hh
      have main : ∀ (w : World) (es : Array Event), w.heap[r]? = some o → (∀ c e f, o ≠ .cells c e f) → (Sem.getObj r k).runT P w es = (k o).runT P w (es ++ #[⟨.obj r, false, o.isChan⟩]) := by
        intro w es hw hn
        simp only [Sem.runT, hw, push_eq]
        try (cases o <;> first | rfl | exact absurd rfl (hn _ _ _))
      have hn : ∀ c e f, o ≠ .cells c e f := by
        rintro c e f rfl
        simp only [Sem.runT, hh] at h; cases h
      exact sim_step (w1 := w) (u1 := u) (Δ1 := #[⟨.obj r, false, o.isChan⟩]) (t' := k o) (main w es hh hn) (fun fs => main u fs hu hn) hr (.refl _) rfl (by simp) (okEv_one (okEv_obj ha (lt_of_heap hh))) (hk o) h

theorem sim_setObj {r : Nat} {o' : Obj} {k : Sem α} (hk : Sim P k) : Sim P (.setObj r o' k) := by
  intro Sh w u es b w' es' hr h
  cases ha : Sh r with
  | true =>
    obtain ⟨c, e, f, h1, _⟩ := hr.shun _ ha
    simp only [Sem.runT, h1] at h; cases h
  | false =>
    cases hh : w.heap[r]? with
    | none => simp only [Sem.runT, hh] at h; cases h
    | some o =>
      have hu : u.heap[r]? = some o := (hr.same _ ha).trans hh
      have main : ∀ (w : World) (es : Array Event), w.heap[r]? = some o → (∀ c e f, o ≠ .cells c e f) → (Sem.setObj r o' k).runT P w es = k.runT P { w with heap := w.heap.setIfInBounds r o' } (es ++ #[⟨.obj r, true, o'.isChan⟩]) := by
        intro w es hw hn
        simp only [Sem.runT, hw, push_eq]
        try (cases o <;> first | rfl | exact absurd rfl (hn _ _ _))
      have hn : ∀ c e f, o ≠ .cells c e f := by
        rintro c e f rfl
        simp only [Sem.runT, hh] at h; cases h
      exact sim_step (w1 := { w with heap := w.heap.setIfInBounds r o' }) (u1 := { u with heap := u.heap.setIfInBounds r o' }) (Δ1 := #[⟨.obj r, true, o'.isChan⟩]) (t' := k) (main w es hh hn) (fun fs => main u fs hu hn) (hr.put ha o') (grew_put (.inr (not_cells hh hn))) rfl (by simp) (okEv_one (okEv_obj ha (by simpa using lt_of_heap hh))) hk h

theorem sim_program {k : Program → Sem α} (hk : Sim P (k P)) : Sim P (.program k) := by
  intro Sh w u es b w' es' hr h
  exact sim_step (w1 := w) (u1 := u) (Δ1 := #[]) (t' := k P) (by simp [Sem.runT]) (fun fs => by simp [Sem.runT]) hr (.refl _) rfl (by simp) (by simp) hk h

theorem sim_mark {m : Mark} {k : Sem α} (hm : (∃ f, m = .extern f) ∨ m = .noRoom) (hk : Sim P k) : Sim P (.mark m k) := by
  intro Sh w u es b w' es' hr h
  exact sim_step (w1 := w) (u1 := u) (Δ1 := #[⟨.mark m, false, true⟩]) (t' := k) (by simp only [Sem.runT, push_eq]) (fun fs => by simp only [Sem.runT, push_eq]) hr (.refl _) rfl (by simp) (okEv_one (by rcases hm with ⟨f, rfl⟩ | rfl <;> trivial)) hk h

/-- An answer of the tape: the second world's is the same. -/
theorem sim_choose {q : Question} {k : Nat → Sem α} (hk : ∀ n, Sim P (k n)) : Sim P (.choose q k) := by
  intro Sh w u es b w' es' hr h
  cases hq : q.forced with
  | true => exact sim_step (w1 := w) (u1 := u) (Δ1 := #[]) (t' := k 0) (by simp only [Sem.runT, hq, if_true, Array.append_empty]) (fun fs => by simp only [Sem.runT, hq, if_true, Array.append_empty]) hr (.refl _) rfl (by simp) (by simp) (hk _) h
  | false =>
    have hg := (run_keeps _ _ _ _ _ _ h).1
    have h0 := h
    simp only [Sem.runT, hq] at h0
    have hg1 := (run_keeps _ _ _ _ _ _ h0).1
    refine ⟨hg, fun win => ?_⟩
    have ha : u.tape u.drawn q = w.tape w.drawn q := by
      have := win 0 (by have := hg1.drawn; dsimp only at this; omega) q
      simpa using this
    exact (sim_step (t := .choose q k) (w := w) (u := u) (es := es) (w1 := { w with drawn := w.drawn + 1 }) (u1 := { u with drawn := u.drawn + 1 }) (Δ1 := #[]) (t' := k (q.cut (w.tape w.drawn q))) (by simp only [Sem.runT, hq, Bool.false_eq_true, if_false, Array.append_empty]) (fun fs => by simp only [Sem.runT, hq, ha, Bool.false_eq_true, if_false, Array.append_empty]) hr.drew grew_drew rfl (by simp) (by simp) (hk _) h).2 win

theorem sim_bind {x : Sem α} {f : α → Sem β} (hx : Sim P x) (hf : ∀ a, Sim P (f a)) : Sim P (x >>= f) := by
  intro Sh w u es b w' es' hr h
  rw [show (x >>= f) = x.bind f from rfl, Sem.runT_bind'] at h
  cases h1 : x.runT P w es with
  | mk r es1 =>
    rw [h1] at h
    cases r with
    | halt hh w1 => cases h
    | ok a w1 =>
      obtain ⟨g1, k1⟩ := hx Sh w u es a w1 es1 hr h1
      have g2 := (run_keeps _ _ _ _ _ _ h).1
      refine ⟨g1.trans g2, fun win => ?_⟩
      have d1 := g1.drawn
      have d2 := g2.drawn
      obtain ⟨Δ1, rfl, alt⟩ := k1 fun i hi q => win i (by omega) q
      obtain ⟨Δ2, hΔ2⟩ := (run_keeps _ _ _ _ _ _ h).2
      refine ⟨Δ1 ++ Δ2, by rw [hΔ2, Array.append_assoc], fun fs => ?_⟩
      rw [show (x >>= f) = x.bind f from rfl, Sem.runT_bind']
      rcases alt fs with ⟨hb, hh, u', fs', e, hdead⟩ | ⟨u1, e, ag⟩
      · exact .inl ⟨hb, hh, u', fs', by rw [e], hdead⟩
      · rw [e]
        obtain ⟨_, k2⟩ := hf a Sh w1 u1 _ b w' es' ag.rel h
        obtain ⟨Δ2', e2, alt2⟩ := k2 fun i hi q => by
          have := win ((w1.drawn - w.drawn) + i) (by omega) q
          rw [ag.tapeU, ag.drawnU, g1.tape]
          rw [show w1.drawn + i = w.drawn + ((w1.drawn - w.drawn) + i) by omega, show u.drawn + (w1.drawn - w.drawn) + i = u.drawn + ((w1.drawn - w.drawn) + i) by omega]
          exact this
        have : Δ2' = Δ2 := by
          rw [hΔ2] at e2
          exact ((Array.append_right_inj _).1 e2).symm
        subst this
        rcases alt2 (fs ++ Δ1) with hl | ⟨u', e', ag'⟩
        · exact .inl hl
        · refine .inr ⟨u', by dsimp only; rw [e', Array.append_assoc], ag'.rel, g1.trans g2, ag'.tapeU.trans ag.tapeU, by rw [ag'.drawnU, ag.drawnU]; omega, fun x hx => ?_⟩
          rcases Array.mem_append.1 hx with hx | hx
          · exact (ag.evs x hx).mono g2.size
          · exact ag'.evs x hx
/-- It never gives a value. -/
def Never (P : Program) (t : Sem α) : Prop := ∀ w es a w' es', t.runT P w es ≠ (.ok a w', es')
theorem sim_never {t : Sem α} (h : Never P t) : Sim P t := fun _ w _ es a w' es' _ e => absurd e (h w es a w' es')
theorem never_halt (h : Halt) : Never P (.halt h : Sem α) := fun w es a w' es' e => by simp only [Sem.runT] at e; cases e
theorem never_bind {x : Sem α} {f : α → Sem β} (hf : ∀ a, Never P (f a)) : Never P (x >>= f) := fun w es b w' es' e => by
  rw [show (x >>= f) = x.bind f from rfl, Sem.runT_bind'] at e
  split at e
  · exact hf _ _ _ _ _ _ e
  · cases e

/-! ### how a tree may halt -/

/-- By a panic, by a fault that ends the run, or at a block that still waits for its initialiser. -/
def okHalt (w : World) : Halt → Prop
  | .panic _ | .stuck _ => True
  | .unsupported (.initOrder b) => ∃ c e, w.heap[b]? = some (.pending c e)
  | .unsupported _ => True
  | _ => False
def Calm (P : Program) (t : Sem α) : Prop := ∀ w es h w' es', t.runT P w es = (.halt h w', es') → okHalt w' h

theorem calm_pure (a : α) : Calm P (.pure a) := fun w es h w' es' e => by simp only [Sem.runT] at e; cases e
theorem calm_halt {h : Halt} (hh : ∀ w, okHalt w h) : Calm P (.halt h : Sem α) := fun w es h' w' es' e => by
  simp only [Sem.runT, Prod.mk.injEq, Result.halt.injEq] at e
  obtain ⟨⟨rfl, _⟩, _⟩ := e
  exact hh _
theorem calm_noCell (w : World) (a : Addr) (s : String) : okHalt w (w.noCell a s) := by
  unfold World.noCell
  split
  · exact ⟨_, _, ‹_›⟩
  · trivial
  · trivial
theorem calm_load {m : Mode} {a : Addr} {k : Value → Sem α} (hk : ∀ v, Calm P (k v)) : Calm P (.load m a k) := fun w es h w' es' e => by
  simp only [Sem.runT] at e
  split at e
  · exact hk _ _ _ _ _ _ e
  · split at e
    · exact hk _ _ _ _ _ _ e
    · rename_i x hx
      cases e
      unfold World.farLoad at hx
      split at hx
      · split at hx
        · cases hx
        · cases hx; trivial
      · cases hx; exact calm_noCell _ _ _
theorem calm_store {m : Mode} {a : Addr} {v : Value} {k : Sem α} (hk : Calm P k) : Calm P (.store m a v k) := fun w es h w' es' e => by
  have main : ∀ {x}, x = (match w.cell? a with
      | some _ => if w.frozen? a then (.halt (.unsupported (.unsafePointer "a write to bytes that a string shares")) w, es)
        else k.runT P (w.setCell a v) (es.push ⟨.cell a, true, m == .atomic⟩)
      | none => match w.farStore P a v (m == .atomic) with
        | .ok (w, touched) => k.runT P w (es ++ touched.toArray.map (⟨.cell ·, true, m == .atomic⟩))
        | .error h => (.halt h w, es) : Result α × Array Event) → x = (.halt h w', es') → okHalt w' h := by
    rintro x rfl e
    split at e
    · split at e
      · cases e; trivial
      · exact hk _ _ _ _ _ e
    · split at e
      · exact hk _ _ _ _ _ e
      · rename_i x hx
        cases e
        unfold World.farStore at hx
        split at hx
        · split at hx
          · cases hx
          · cases hx; trivial
        · cases hx; exact calm_noCell _ _ _
  cases v <;> first | exact main rfl e | (cases e; trivial)
theorem calm_new {o : Obj} {k : Nat → Sem α} (hk : ∀ r, Calm P (k r)) : Calm P (.new o k) := fun w es h w' es' e => hk _ _ _ _ _ _ e
theorem calm_shape {r : Nat} {k : Option (TypeId × Nat) → Sem α} (hk : ∀ s, Calm P (k s)) : Calm P (.shape r k) := fun w es h w' es' e => hk _ _ _ _ _ _ e
theorem calm_frozen {a : Addr} {k : Bool → Sem α} (hk : ∀ b, Calm P (k b)) : Calm P (.frozen a k) := fun w es h w' es' e => hk _ _ _ _ _ _ e
theorem calm_getObj {r : Nat} {k : Obj → Sem α} (hk : ∀ o, Calm P (k o)) : Calm P (.getObj r k) := fun w es h w' es' e => by
  simp only [Sem.runT] at e
  split at e
  · cases e; trivial
  · exact hk _ _ _ _ _ _ e
  · cases e; trivial
theorem calm_setObj {r : Nat} {o : Obj} {k : Sem α} (hk : Calm P k) : Calm P (.setObj r o k) := fun w es h w' es' e => by
  simp only [Sem.runT] at e
  split at e
  · cases e; trivial
  · exact hk _ _ _ _ _ e
  · cases e; trivial
theorem calm_program {k : Program → Sem α} (hk : Calm P (k P)) : Calm P (.program k) := fun w es h w' es' e => hk _ _ _ _ _ e
theorem calm_mark {m : Mark} {k : Sem α} (hk : Calm P k) : Calm P (.mark m k) := fun w es h w' es' e => hk _ _ _ _ _ e
theorem calm_choose {q : Question} {k : Nat → Sem α} (hk : ∀ n, Calm P (k n)) : Calm P (.choose q k) := fun w es h w' es' e => by
  simp only [Sem.runT] at e
  split at e
  · exact hk _ _ _ _ _ _ e
  · exact hk _ _ _ _ _ _ e
theorem calm_bind {x : Sem α} {f : α → Sem β} (hx : Calm P x) (hf : ∀ a, Calm P (f a)) : Calm P (x >>= f) := fun w es h w' es' e => by
  rw [show (x >>= f) = x.bind f from rfl, Sem.runT_bind'] at e
  split at e
  · exact hf _ _ _ _ _ _ e
  · rename_i h1
    cases e
    exact hx _ _ _ _ _ h1

theorem calm_sys {c : Sys} {k : SysRet → Sem α} (hk : ∀ r, Calm P (k r)) : Calm P (.sys c k) := fun w es h w' es' e => hk _ _ _ _ _ _ e

/-- It halts as it may, and agrees in the two worlds. -/
structure Fair (P : Program) (t : Sem α) : Prop where
  calm : Calm P t
  sim : Sim P t
theorem fair_pure (a : α) : Fair P (.pure a) := ⟨calm_pure a, sim_pure a⟩
theorem fair_ret (a : α) : Fair P (Pure.pure a) := fair_pure a
theorem fair_halt {h : Halt} (hh : ∀ w, okHalt w h) : Fair P (.halt h : Sem α) := ⟨calm_halt hh, sim_halt h⟩
theorem fair_load {m : Mode} {a : Addr} {k : Value → Sem α} (hk : ∀ v, Fair P (k v)) : Fair P (.load m a k) := ⟨calm_load fun v => (hk v).calm, sim_load fun v => (hk v).sim⟩
theorem fair_store {m : Mode} {a : Addr} {v : Value} {k : Sem α} (hk : Fair P k) : Fair P (.store m a v k) := ⟨calm_store hk.calm, sim_store hk.sim⟩
theorem fair_new {o : Obj} {k : Nat → Sem α} (hk : ∀ r, Fair P (k r)) : Fair P (.new o k) := ⟨calm_new fun v => (hk v).calm, sim_new fun v => (hk v).sim⟩
theorem fair_shape {r : Nat} {k : Option (TypeId × Nat) → Sem α} (hk : ∀ s, Fair P (k s)) (he : ∀ e n m, k (some (e, n)) = k (some (e, m))) : Fair P (.shape r k) := ⟨calm_shape fun v => (hk v).calm, sim_shape (fun v => (hk v).sim) he⟩
theorem fair_frozen {a : Addr} {k : Bool → Sem α} (hk : ∀ b, Fair P (k b)) : Fair P (.frozen a k) := ⟨calm_frozen fun v => (hk v).calm, sim_frozen fun v => (hk v).sim⟩
theorem fair_getObj {r : Nat} {k : Obj → Sem α} (hk : ∀ o, Fair P (k o)) : Fair P (.getObj r k) := ⟨calm_getObj fun v => (hk v).calm, sim_getObj fun v => (hk v).sim⟩
theorem fair_setObj {r : Nat} {o : Obj} {k : Sem α} (hk : Fair P k) : Fair P (.setObj r o k) := ⟨calm_setObj hk.calm, sim_setObj hk.sim⟩
theorem fair_program {k : Program → Sem α} (hk : Fair P (k P)) : Fair P (.program k) := ⟨calm_program hk.calm, sim_program hk.sim⟩
theorem fair_mark {m : Mark} {k : Sem α} (hm : (∃ f, m = .extern f) ∨ m = .noRoom) (hk : Fair P k) : Fair P (.mark m k) := ⟨calm_mark hk.calm, sim_mark hm hk.sim⟩
theorem fair_choose {q : Question} {k : Nat → Sem α} (hk : ∀ n, Fair P (k n)) : Fair P (.choose q k) := ⟨calm_choose fun v => (hk v).calm, sim_choose fun v => (hk v).sim⟩
theorem fair_bind {x : Sem α} {f : α → Sem β} (hx : Fair P x) (hf : ∀ a, Fair P (f a)) : Fair P (x >>= f) := ⟨calm_bind hx.calm fun a => (hf a).calm, sim_bind hx.sim fun a => (hf a).sim⟩
theorem fair_never {t : Sem α} (h : Never P t) (hc : Calm P t) : Fair P t := ⟨hc, sim_never h⟩
end
end Go.Br
