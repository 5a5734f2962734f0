/-
  Partitions: the model's way and the program's way to an equivalence come to the same, for every list of numbers.
-/
import Derived.Test.YtebkeebgjjmdbaaGreatDoorJA
namespace Go.Proofs.YtebkeebgjjmdbaaGreatDoor
open Go.RowKit

/-! the model's way -/
/-- whether a point stays the least one of its row, as the model asks it -/
def ownB (x : Int) (k : Nat) : Bool := bits .and .i64 x (wrap64 (wrap64 (2 ^ k) - 1)) == 0
def ownTo (xs : List Int) (k : Nat) : List Int := ((List.range k).filter fun i => ownB (rowAt xs i) i).map (rowAt xs)
def ownL (xs : List Int) : List Int := ownTo xs xs.length
/-- the first k points given their class -/
def putTo (c : Int) (out : List Int) (k : Nat) : List Int := (List.range k).foldl (fun o i => if bitB c i then o.set i c else o) out
def sOk (n : Nat) (seen c : Int) : Bool := inB c 1 (wrap64 (wrap64 (2 ^ n) - 1)) && bits .and .i64 c seen == 0
def sStep (n : Nat) (st : Int × List Int) (c : Int) : Option (Int × List Int) := if sOk n st.1 c then some (bits .or .i64 st.1 c, putTo c st.2 n) else none
def sFold (n : Nat) (xs : List Int) : Option (Int × List Int) := xs.foldlM (sStep n) (0, List.replicate n 0)
def sRes (n : Nat) (xs : List Int) : Option (List Int) :=
  match sFold n xs with
  | none => none
  | some (seen, out) => if seen == wrap64 (wrap64 (2 ^ n) - 1) && decide (ownL out = xs) then some out else none

/-! the program's way -/
/-- the least point that a set has not -/
def lo (t : Int) : Nat := ((List.range 4).find? fun i => !hasB t i).getD 4
def iOk (n : Nat) (told c : Int) : Bool := rowIn n c && (hasB c (lo told) && bits .and .i64 c told == 0)
/-- the first k points of a set joined with its least one -/
def joinTo (c : Int) (l : Nat) (ps : List Nat) (k : Nat) : List Nat := (List.range k).foldl (fun q i => if hasB c i then linkL q l i else q) ps
def iStep (n : Nat) (st : Int × List Nat) (c : Int) : Option (Int × List Nat) := if iOk n st.1 c then some (bits .or .i64 st.1 c, joinTo c (lo st.1) st.2 n) else none
def iFold (n : Nat) (xs : List Int) : Option (Int × List Nat) := xs.foldlM (iStep n) (0, fo0)
def iRes (n : Nat) (xs : List Int) : Option (List Int) :=
  match iFold n xs with
  | none => none
  | some (told, ps) => if told == ((2 ^ n - 1 : Nat) : Int) then some (forestR n ps) else none

theorem putTo_succ (c : Int) (out : List Int) (k : Nat) : putTo c out (k + 1) = if bitB c k then (putTo c out k).set k c else putTo c out k := by
  unfold putTo
  rw [List.range_succ, List.foldl_append]
  rfl
theorem joinTo_succ (c : Int) (l : Nat) (ps : List Nat) (k : Nat) : joinTo c l ps (k + 1) = if hasB c k then linkL (joinTo c l ps k) l k else joinTo c l ps k := by
  unfold joinTo
  rw [List.range_succ, List.foldl_append]
  rfl
theorem putTo_len (c : Int) (out : List Int) : ∀ k, (putTo c out k).length = out.length
  | 0 => rfl
  | k + 1 => by
    rw [putTo_succ]
    split
    · rw [List.length_set, putTo_len c out k]
    · exact putTo_len c out k
theorem Fo.joinTo {ps : List Nat} (h : Fo ps) (c : Int) (l : Nat) (hl : l < 4) : ∀ k, k ≤ 4 → Fo (joinTo c l ps k)
  | 0, _ => h
  | k + 1, hk => by
    rw [joinTo_succ]
    split
    · exact (Fo.joinTo h c l hl k (by omega)).link l k hl (by omega)
    · exact Fo.joinTo h c l hl k (by omega)
theorem sFold_snoc (n : Nat) (xs : List Int) (c : Int) : sFold n (xs ++ [c]) = (sFold n xs).bind fun st => sStep n st c := by
  unfold sFold
  rw [List.foldlM_append]
  simp [Option.bind_eq_bind]
theorem iFold_snoc (n : Nat) (xs : List Int) (c : Int) : iFold n (xs ++ [c]) = (iFold n xs).bind fun st => iStep n st c := by
  unfold iFold
  rw [List.foldlM_append]
  simp [Option.bind_eq_bind]
theorem sFold_app (n : Nat) (xs ys : List Int) (h : sFold n xs = none) : sFold n (xs ++ ys) = none := by
  unfold sFold at h ⊢
  rw [List.foldlM_append, h]
  rfl
theorem iFold_app (n : Nat) (xs ys : List Int) (h : iFold n xs = none) : iFold n (xs ++ ys) = none := by
  unfold iFold at h ⊢
  rw [List.foldlM_append, h]
  rfl

/-- a class that the program takes the model takes, too -/
theorem ok_ok' : ∀ n : Fin 5, ∀ t : Fin 16, ∀ c : Fin 16, c.val < 2 ^ n.val → iOk n.val (t.val : Int) (c.val : Int) = true → sOk n.val (t.val : Int) (c.val : Int) = true := by decide +kernel
theorem or_16 : ∀ t c : Fin 16, ∃ u : Fin 16, bits .or .i64 (t.val : Int) (c.val : Int) = (u.val : Int) := by decide +kernel
theorem sOk_range {n : Nat} (h1 : 1 ≤ n) (h4 : n ≤ 4) {t c : Int} (h : sOk n t c = true) : ∃ k, k < 2 ^ n ∧ c = ((k : Nat) : Int) := by
  unfold sOk at h
  rw [Bool.and_eq_true] at h
  have h := of_decide_eq_true h.1
  have e : wrap64 (wrap64 (2 ^ n) - 1) = 2 ^ n - 1 := by
    rcases (by omega : n = 1 ∨ n = 2 ∨ n = 3 ∨ n = 4) with rfl | rfl | rfl | rfl <;> decide +kernel
  rw [e] at h
  have h2 : ((2 ^ n : Nat) : Int) = (2 : Int) ^ n := by simp
  exact ⟨c.toNat, by omega, by omega⟩
theorem iOk_range {n : Nat} {t c : Int} (h : iOk n t c = true) : ∃ k, k < 2 ^ n ∧ c = ((k : Nat) : Int) := by
  unfold iOk rowIn at h
  rw [Bool.and_eq_true, Bool.and_eq_true] at h
  have h0 := of_decide_eq_true h.1.1
  have h1 := of_decide_eq_true h.1.2
  have h2 : ((2 ^ n : Nat) : Int) = (2 : Int) ^ n := by simp
  exact ⟨c.toNat, by omega, by omega⟩
theorem pow16 {n : Nat} (h4 : n ≤ 4) : 2 ^ n ≤ 16 := Nat.pow_le_pow_right (by decide) h4

/-- both go along, as far as the program goes -/
theorem both_go {n : Nat} (h1 : 1 ≤ n) (h4 : n ≤ 4) (xs : List Int) : ∀ told ps, iFold n xs = some (told, ps) → (∃ t : Fin 16, told = (t.val : Int)) ∧ ∃ out, sFold n xs = some (told, out) := by
  refine rev_ind (P := fun xs => ∀ told ps, iFold n xs = some (told, ps) → (∃ t : Fin 16, told = (t.val : Int)) ∧ ∃ out, sFold n xs = some (told, out)) ?_ ?_ xs
  · intro told ps h
    cases h
    exact ⟨⟨0, rfl⟩, _, rfl⟩
  · intro l c ih told ps h
    rw [iFold_snoc] at h
    cases hl : iFold n l with
    | none => rw [hl] at h; cases h
    | some st =>
      obtain ⟨t0, p0⟩ := st
      rw [hl] at h
      obtain ⟨⟨t, ht⟩, out, ho⟩ := ih t0 p0 hl
      have h : iStep n (t0, p0) c = some (told, ps) := h
      unfold iStep at h
      cases hk : iOk n t0 c with
      | false => rw [show (t0, p0).1 = t0 from rfl, hk] at h; cases h
      | true =>
        rw [show (t0, p0).1 = t0 from rfl, hk, if_pos rfl] at h
        cases h
        obtain ⟨k, hk2, rfl⟩ := iOk_range hk
        have hp := pow16 h4
        subst ht
        have hs := ok_ok' ⟨n, by omega⟩ t ⟨k, by omega⟩ hk2 hk
        have hs : sOk n (t.val : Int) (k : Int) = true := hs
        refine ⟨or_16 t ⟨k, by omega⟩, putTo (k : Int) out n, ?_⟩
        rw [sFold_snoc, ho]
        show sStep n ((t.val : Int), out) (k : Int) = _
        unfold sStep
        rw [show ((t.val : Int), out).1 = (t.val : Int) from rfl, hs, if_pos rfl]

/-- all lists that the model does not turn down at once, tried -/
def tryAll (n : Nat) : Nat → List Int → Bool
  | 0, pre => decide (sRes n pre = iRes n pre) && (List.range (2 ^ n)).all fun c => (sFold n (pre ++ [(c : Int)])).isNone
  | f + 1, pre => decide (sRes n pre = iRes n pre) && (List.range (2 ^ n)).all fun c => if (sFold n (pre ++ [(c : Int)])).isSome then tryAll n f (pre ++ [(c : Int)]) else true
theorem tried1 : tryAll 1 4 [] = true := by decide +kernel
theorem tried2 : tryAll 2 4 [] = true := by decide +kernel
theorem tried3 : tryAll 3 4 [] = true := by decide +kernel
theorem tried4 : tryAll 4 4 [] = true := by decide +kernel
theorem tryAll_sound {n : Nat} (h1 : 1 ≤ n) (h4 : n ≤ 4) : ∀ (ys : List Int) (f : Nat) (pre : List Int), tryAll n f pre = true → (sFold n (pre ++ ys)).isSome = true → sRes n (pre ++ ys) = iRes n (pre ++ ys)
  | [], f, pre, h, _ => by
    rw [List.append_nil]
    cases f with
    | zero =>
      unfold tryAll at h
      rw [Bool.and_eq_true] at h
      exact of_decide_eq_true h.1
    | succ f =>
      unfold tryAll at h
      rw [Bool.and_eq_true] at h
      exact of_decide_eq_true h.1
  | c :: ys, f, pre, h, hs => by
    have e : pre ++ c :: ys = (pre ++ [c]) ++ ys := by simp
    rw [e] at hs ⊢
    have hsome : (sFold n (pre ++ [c])).isSome = true := by
      cases hn : sFold n (pre ++ [c]) with
      | none => rw [sFold_app n _ ys hn] at hs; cases hs
      | some _ => rfl
    obtain ⟨k, hk, rfl⟩ : ∃ k, k < 2 ^ n ∧ c = ((k : Nat) : Int) := by
      rw [sFold_snoc] at hsome
      cases hp : sFold n pre with
      | none => rw [hp] at hsome; cases hsome
      | some st =>
        rw [hp] at hsome
        have hsome : (sStep n st c).isSome = true := hsome
        unfold sStep at hsome
        cases hk : sOk n st.1 c with
        | false => rw [hk] at hsome; cases hsome
        | true => exact sOk_range h1 h4 hk
    cases f with
    | zero =>
      unfold tryAll at h
      rw [Bool.and_eq_true, List.all_eq_true] at h
      have := h.2 k (List.mem_range.2 hk)
      cases hx : sFold n (pre ++ [((k : Nat) : Int)]) with
      | none => rw [hx] at hsome; cases hsome
      | some _ => rw [hx] at this; cases this
    | succ f =>
      unfold tryAll at h
      rw [Bool.and_eq_true, List.all_eq_true] at h
      have := h.2 k (List.mem_range.2 hk)
      rw [if_pos hsome] at this
      exact tryAll_sound h1 h4 ys f _ this hs

theorem res_eq {n : Nat} (h1 : 1 ≤ n) (h4 : n ≤ 4) (xs : List Int) : sRes n xs = iRes n xs := by
  cases hs : sFold n xs with
  | none =>
    have hi : iFold n xs = none := by
      cases hi : iFold n xs with
      | none => rfl
      | some st =>
        obtain ⟨t, ps⟩ := st
        obtain ⟨_, out, ho⟩ := both_go h1 h4 xs t ps hi
        rw [hs] at ho
        cases ho
    unfold sRes iRes
    rw [hs, hi]
  | some st =>
    have ht : tryAll n 4 [] = true := by
      rcases (by omega : n = 1 ∨ n = 2 ∨ n = 3 ∨ n = 4) with rfl | rfl | rfl | rfl
      · exact tried1
      · exact tried2
      · exact tried3
      · exact tried4
    have := tryAll_sound h1 h4 xs 4 [] ht (by rw [List.nil_append, hs]; rfl)
    rwa [List.nil_append] at this
end Go.Proofs.YtebkeebgjjmdbaaGreatDoor
