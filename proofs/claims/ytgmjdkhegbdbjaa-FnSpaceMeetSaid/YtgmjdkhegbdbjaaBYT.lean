/-
  The starter empties the channels one by one: its operations, what it knows.
-/
import Derived.Test.YtgmjdkhegbdbjaaBYW
import Derived.Test.YtgmjdkhegbdbjaaBYM
import Derived.Test.YtgmjdkhegbdbjaaBYB
import Derived.Conc.Starve
import Derived.Laws.MakeOwn
import Derived.Conc.AppendWalk
import Derived.OwnWalk
namespace Go.Ph
open Go Go.Conc Go.ConcN Go.RowKit Go.Conc.Lib Go.ConcR.Gen Go.ConcN.Gen
open Go.ConcR (KK wgBlock WgAt stA smA rd wr mk Payload Aside2 DC0)
set_option linter.unusedVariables false
set_option linter.unusedSimpArgs false
set_option linter.unusedSectionVars false
variable [Payload] {L : WgLink}



theorem dc_none {ty : TypeId} {Wg : Nat} {rel : TypeId} {Sh : Nat → Bool} {kp : Nat → Prop} (w : World) (es : Array Event) (h : ∀ e ∈ es, False) : DC ty Wg rel Sh kp w w es := ⟨.refl w, Nat.le_refl _, fun _ _ => rfl, fun _ _ h => h, id, fun e he => (h e he).elim⟩
theorem dc_wg {ty : TypeId} {Wg : Nat} {rel : TypeId} {Sh : Nat → Bool} {kp : Nat → Prop} {w : World} {st sm : Int} (hne : ty ≠ rel) (hk : ¬ kp Wg) (h : WgAt ty Wg w st sm) (v : Int) : DC ty Wg rel Sh kp w (w.setCell (stA Wg) (.int .u64 v)) #[rd (stA Wg), wr (stA Wg)] := by
  have hA := aside_setCell w (stA Wg) (.int .u64 v)
  have h' := h.setSt v
  refine ⟨⟨hA.tape, hA.os, hA.output⟩, Nat.le_of_eq hA.size.symm, fun b hb => hA.block b ?_, fun b hb hx => ?_, fun _ => ⟨_, _, h'⟩, fun e he => .inr (.inl ?_)⟩
  · rintro rfl
    rcases hb with hb | hb
    · exact hk hb
    · exact isTy_wg h hne hb
  · by_cases e : b = Wg
    · subst e; exact absurd hx (isTy_wg h' hne)
    · exact hx.of (hA.block b e).symm
  · simp at he
    rcases he with rfl | rfl
    · exact ⟨stA Wg, false, rfl, rfl⟩
    · exact ⟨stA Wg, true, rfl, rfl⟩

theorem rs_wg {ty : TypeId} {Wg : Nat} {w w₁ : World} {st sm : Int} (h : WgAt ty Wg w st sm) (r : RS w w₁) : WgAt ty Wg w₁ st sm := h.of_block (r.old Wg (Array.getElem?_eq_some_iff.1 (show w.heap[Wg]? = _ from h)).1)

section
variable {P : Program} {Wg : Nat} {rel : TypeId} {Sh : Nat → Bool} {ks : List Kid} {F : World → Prop} {Stop : Goroutine → World → Prop}
  {b₀ : Frame} {a₀ : Act} {ops₀ : Array Oper} {i₀ : Nat} {rest₀ : List Nat} {k₀ : List Item} {cs : List Frame}

set_option maxRecDepth 100000 in
set_option maxHeartbeats 16000000 in
theorem addWalk (H : WgLib P L) (hne : L.tWg ≠ rel) (hkw : ¬ keptBy ks Wg) (v : Nat) (hv : v < 2147483647) (hFr : ∀ w w', RS w w' → F w → F w') (hFw : ∀ w, F w → F (w.setCell (stA Wg) (.int .u64 ((v + 1) * KK))))
    (hT : ∀ w, F w → WgAt L.tWg Wg w ((v + 1) * KK) 0 → ∃ m, GS P L.tWg Wg rel Sh ks Stop m (G (b₀.at (a₀.put ((ops₀[i₀]?).bind (·.dst)) (.tuple #[])) (.inRegion ops₀ rest₀ :: k₀)) cs) w)
    (w : World) (h0 : F w) (h1 : WgAt L.tWg Wg w (v * KK) 0) :
    GS P L.tWg Wg rel Sh ks (AtMark P .disable fun g w => ∃ m, GS P L.tWg Wg rel Sh ks (AtMark P .enable fun g w => ∃ m, GS P L.tWg Wg rel Sh ks Stop m g w) m g w) 12
      (G ((base L.add).at ⟨#[.pointer (some ⟨Wg, 0, none⟩), .int .i64 1] ++ Array.replicate 115 undef, []⟩ [.code (body_add L)]) (b₀.at a₀ (.inRegion ops₀ (i₀ :: rest₀) :: k₀) :: cs)) w := by
  have hF : F w ∧ WgAt L.tWg Wg w (v * KK) 0 := ⟨h0, h1⟩
  clear h0 h1
  have rl : ∀ {st : Int} {w w₁ : World}, (F w ∧ WgAt L.tWg Wg w st 0) → RS w w₁ → F w₁ ∧ WgAt L.tWg Wg w₁ st 0 := fun h r => ⟨hFr _ _ r h.1, rs_wg h.2 r⟩
  have dn : ∀ (w : World) (es : Array Event), (∀ e ∈ es, False) → DC L.tWg Wg rel Sh (keptBy ks) w w es := fun w es h => dc_none w es h
  have T : Terms RS (DC L.tWg Wg rel Sh (keptBy ks)) := ⟨fun _ _ _ h1 h2 => h1.trans h2, fun w => dn w #[] (by simp)⟩
  lib_facts
  simp only [body_add, addFn, Option.getD_some, Array.replicate_succ, Array.replicate_zero, List.push_toArray, List.nil_append, List.cons_append, List.append_toArray]
  repeat
    first
      | refine g_seq T ?_
      | refine g_end T ?_
      | refine g_skip T ?_
      | refine g_block T ?_
      | refine g_loop T ?_
      | refine g_inBlock T ?_
      | refine g_ret T ?_
      | refine g_region T rfl ?_
      | refine g_true T rfl ?_
      | refine g_false T rfl ?_
      | (refine g_no T rfl rfl ?_
         walk_nrm)
      | (refine Goes.step rfl (fun _ h₁ => ?_)
         replace hF := rl hF h₁
         clear h₁
         refine goes_oper_k rfl rfl (base_kind _) (fun K hK => ?_)
         go_simp
         refine hK _ _ ⟨?_, ?_⟩
         · refine dn _ _ (fun e he => ?_)
           have hm := mem_listed he
           simp [go_sem, *] at hm
         clear hK K
         try w_num)
      | (refine Goes.step rfl (fun _ h₁ => ?_)
         replace hF := rl hF h₁
         clear h₁
         refine goes_oper_k rfl rfl (baseD_kind _) (fun K hK => ?_)
         go_simp
         refine hK _ _ ⟨?_, ?_⟩
         · refine dn _ _ (fun e he => ?_)
           have hm := mem_listed he
           simp [go_sem, *] at hm
         clear hK K
         try w_num)
  refine Goes.stop (fun w₁ h₁ => ?_)
  replace hF := rl hF h₁
  clear h₁
  refine ⟨rfl, _, stepG_mark0 .disable (by simp) rfl rfl (base_kind _) rfl H.f_disable (x_disable_n L) (x_disable_b L) (x_disable_x L) (x_disable_f L), 150, ?_⟩
  walk_nrm
  refine g_end T ?_
  refine g_region T rfl ?_
  refine Goes.step rfl (fun _ h₁ => ?_)
  replace hF := rl hF h₁
  clear h₁
  refine goes_eq (stepG_defer rfl rfl (base_kind _) rfl) ⟨dn _ _ (fun e he => by simp at he), ?_⟩
  walk_nrm
  repeat
    first
      | refine g_seq T ?_
      | refine g_end T ?_
      | refine g_skip T ?_
      | refine g_block T ?_
      | refine g_loop T ?_
      | refine g_inBlock T ?_
      | refine g_ret T ?_
      | refine g_region T rfl ?_
      | refine g_true T rfl ?_
      | refine g_false T rfl ?_
      | (refine g_no T rfl rfl ?_
         walk_nrm)
      | (refine Goes.step rfl (fun _ h₁ => ?_)
         replace hF := rl hF h₁
         clear h₁
         refine goes_oper_k rfl rfl (base_kind _) (fun K hK => ?_)
         go_simp
         refine hK _ _ ⟨?_, ?_⟩
         · refine dn _ _ (fun e he => ?_)
           have hm := mem_listed he
           simp [go_sem, *] at hm
         clear hK K
         try w_num)
      | (refine Goes.step rfl (fun _ h₁ => ?_)
         replace hF := rl hF h₁
         clear h₁
         refine goes_oper_k rfl rfl (baseD_kind _) (fun K hK => ?_)
         go_simp
         refine hK _ _ ⟨?_, ?_⟩
         · refine dn _ _ (fun e he => ?_)
           have hm := mem_listed he
           simp [go_sem, *] at hm
         clear hK K
         try w_num)
  refine Goes.step rfl (fun _ h₁ => ?_)
  replace hF := rl hF h₁
  clear h₁
  refine goes_eq (stepG_entry_pure (.bool false) rfl rfl (base_kind _) rfl H.f_inBubble (x_inBubble_n L) (x_inBubble_b L) (x_inBubble_x L) (x_inBubble_f L)) ⟨dn _ _ (fun e he => by simp at he), ?_⟩
  walk_nrm
  repeat
    first
      | refine g_seq T ?_
      | refine g_end T ?_
      | refine g_skip T ?_
      | refine g_block T ?_
      | refine g_loop T ?_
      | refine g_inBlock T ?_
      | refine g_ret T ?_
      | refine g_region T rfl ?_
      | refine g_true T rfl ?_
      | refine g_false T rfl ?_
      | (refine g_no T rfl rfl ?_
         walk_nrm)
      | (refine Goes.step rfl (fun _ h₁ => ?_)
         replace hF := rl hF h₁
         clear h₁
         refine goes_oper_k rfl rfl (base_kind _) (fun K hK => ?_)
         go_simp
         refine hK _ _ ⟨?_, ?_⟩
         · refine dn _ _ (fun e he => ?_)
           have hm := mem_listed he
           simp [go_sem, *] at hm
         clear hK K
         try w_num)
      | (refine Goes.step rfl (fun _ h₁ => ?_)
         replace hF := rl hF h₁
         clear h₁
         refine goes_oper_k rfl rfl (baseD_kind _) (fun K hK => ?_)
         go_simp
         refine hK _ _ ⟨?_, ?_⟩
         · refine dn _ _ (fun e he => ?_)
           have hm := mem_listed he
           simp [go_sem, *] at hm
         clear hK K
         try w_num)
  refine Goes.step rfl (fun _ h₁ => ?_)
  replace hF := rl hF h₁
  clear h₁
  refine goes_call rfl rfl (base_kind _) rfl H.f_uAdd (nm_uAdd L) rfl ⟨dn _ _ (fun e he => by simp at he), ?_⟩
  walk_nrmf uAddFn
  repeat
    first
      | refine g_seq T ?_
      | refine g_end T ?_
      | refine g_skip T ?_
      | refine g_block T ?_
      | refine g_loop T ?_
      | refine g_inBlock T ?_
      | refine g_ret T ?_
      | refine g_region T rfl ?_
      | refine g_true T rfl ?_
      | refine g_false T rfl ?_
      | (refine g_no T rfl rfl ?_
         walk_nrm)
      | (refine Goes.step rfl (fun _ h₁ => ?_)
         replace hF := rl hF h₁
         clear h₁
         refine goes_oper_k rfl rfl (base_kind _) (fun K hK => ?_)
         go_simp
         refine hK _ _ ⟨?_, ?_⟩
         · refine dn _ _ (fun e he => ?_)
           have hm := mem_listed he
           simp [go_sem, *] at hm
         clear hK K
         try w_num)
      | (refine Goes.step rfl (fun _ h₁ => ?_)
         replace hF := rl hF h₁
         clear h₁
         refine goes_oper_k rfl rfl (baseD_kind _) (fun K hK => ?_)
         go_simp
         refine hK _ _ ⟨?_, ?_⟩
         · refine dn _ _ (fun e he => ?_)
           have hm := mem_listed he
           simp [go_sem, *] at hm
         clear hK K
         try w_num)
  rcases Nat.eq_zero_or_pos v with rfl | hvp
  · -- the count is now 1
    have z : (((0 : Nat) : Int) + 1) * KK = KK := by simp
    rw [z] at hT hFw
    have e0 : IntKind.u64.wrap (0 + 4294967296) = KK := by decide
    have hz : ((0 : Nat) : Int) * KK = 0 := by simp
    rw [hz] at hF
    refine Goes.step rfl (fun _ h₁ => ?_)
    replace hF := rl hF h₁
    clear h₁
    refine goes_eq ((stepG_add_atomic rfl rfl (base_kind _) rfl H.f_addU64 (x_addU64_n L) (x_addU64_b L) (x_addU64_x L) .u64 (x_addU64_f L) rfl rfl hF.2.cellSt (hF.2.thaw 0)).trans (by rw [e0]; rfl)) ⟨dc_wg hne hkw hF.2 KK, ?_⟩
    replace hF := And.intro (hFw _ hF.1) (hF.2.setSt KK)
    simp only [KK] at hF ⊢
    walk_nrm
    repeat
      first
        | refine g_seq T ?_
        | refine g_end T ?_
        | refine g_skip T ?_
        | refine g_block T ?_
        | refine g_loop T ?_
        | refine g_inBlock T ?_
        | refine g_ret T ?_
        | refine g_region T rfl ?_
        | refine g_true T rfl ?_
        | refine g_false T rfl ?_
        | (refine g_no T rfl rfl ?_
           walk_nrm)
        | (refine Goes.step rfl (fun _ h₁ => ?_)
           replace hF := rl hF h₁
           clear h₁
           refine goes_oper_k rfl rfl (base_kind _) (fun K hK => ?_)
           go_simp
           refine hK _ _ ⟨?_, ?_⟩
           · refine dn _ _ (fun e he => ?_)
             have hm := mem_listed he
             simp [go_sem, *] at hm
           clear hK K
           try w_num)
        | (refine Goes.step rfl (fun _ h₁ => ?_)
           replace hF := rl hF h₁
           clear h₁
           refine goes_oper_k rfl rfl (baseD_kind _) (fun K hK => ?_)
           go_simp
           refine hK _ _ ⟨?_, ?_⟩
           · refine dn _ _ (fun e he => ?_)
             have hm := mem_listed he
             simp [go_sem, *] at hm
           clear hK K
           try w_num)
    refine Goes.step rfl (fun _ h₁ => ?_)
    replace hF := rl hF h₁
    clear h₁
    refine goes_leave1 rfl rfl H.f_uAdd rfl ⟨dn _ _ (fun e he => by simp at he), ?_⟩
    walk_nrm
    repeat
      first
        | refine g_seq T ?_
        | refine g_end T ?_
        | refine g_skip T ?_
        | refine g_block T ?_
        | refine g_loop T ?_
        | refine g_inBlock T ?_
        | refine g_ret T ?_
        | refine g_region T rfl ?_
        | refine g_true T rfl ?_
        | refine g_false T rfl ?_
        | (refine g_no T rfl rfl ?_
           walk_nrm)
        | (refine Goes.step rfl (fun _ h₁ => ?_)
           replace hF := rl hF h₁
           clear h₁
           refine goes_oper_k rfl rfl (base_kind _) (fun K hK => ?_)
           go_simp
           refine hK _ _ ⟨?_, ?_⟩
           · refine dn _ _ (fun e he => ?_)
             have hm := mem_listed he
             simp [go_sem, *] at hm
           clear hK K
           try w_num)
        | (refine Goes.step rfl (fun _ h₁ => ?_)
           replace hF := rl hF h₁
           clear h₁
           refine goes_oper_k rfl rfl (baseD_kind _) (fun K hK => ?_)
           go_simp
           refine hK _ _ ⟨?_, ?_⟩
           · refine dn _ _ (fun e he => ?_)
             have hm := mem_listed he
             simp [go_sem, *] at hm
           clear hK K
           try w_num)
    refine Goes.step rfl (fun _ h₁ => ?_)
    replace hF := rl hF h₁
    clear h₁
    refine goes_oper_k rfl rfl (base_kind _) (fun K hK => ?_)
    have hcv := run_convert_to_unsafe (P := P) H.underlying_tPU32 H.underlying_tUP H.room_tU32 (WgLive.cell1 (⟨_, _, hF.2⟩ : WgLive L.tWg Wg _)).choose_spec
    have hce := fun es => events_convert_to_unsafe (P := P) H.underlying_tPU32 H.underlying_tUP H.room_tU32 (WgLive.cell1 (⟨_, _, hF.2⟩ : WgLive L.tWg Wg _)).choose_spec es
    go_simp
    refine hK _ _ ⟨?_, ?_⟩
    · refine dn _ _ (fun e he => ?_)
      have hm := mem_listed he
      simp [go_sem, *] at hm
    clear hK K hcv hce
    try w_num
    refine Goes.step rfl (fun _ h₁ => ?_)
    replace hF := rl hF h₁
    clear h₁
    refine goes_eq (stepG_markAt .read (by simp) rfl rfl (base_kind _) rfl H.f_raceRead (x_raceRead_n L) (x_raceRead_b L) (x_raceRead_x L) (x_raceRead_f L) (ad := ⟨Wg, 1, none⟩) (by simp [Act.eval])) ⟨⟨.refl _, Nat.le_refl _, fun _ _ => rfl, fun _ _ h => h, id, fun ex hex => ?_⟩, ?_⟩
    · rw [Array.mem_singleton] at hex
      subst hex
      exact .inr (.inr (.inl ⟨_, .inl rfl, rfl⟩))
    walk_nrm
    repeat
      first
        | refine g_seq T ?_
        | refine g_end T ?_
        | refine g_skip T ?_
        | refine g_block T ?_
        | refine g_loop T ?_
        | refine g_inBlock T ?_
        | refine g_ret T ?_
        | refine g_region T rfl ?_
        | refine g_true T rfl ?_
        | refine g_false T rfl ?_
        | (refine g_no T rfl rfl ?_
           walk_nrm)
        | (refine Goes.step rfl (fun _ h₁ => ?_)
           replace hF := rl hF h₁
           clear h₁
           refine goes_oper_k rfl rfl (base_kind _) (fun K hK => ?_)
           go_simp
           refine hK _ _ ⟨?_, ?_⟩
           · refine dn _ _ (fun e he => ?_)
             have hm := mem_listed he
             simp [go_sem, *] at hm
           clear hK K
           try w_num)
        | (refine Goes.step rfl (fun _ h₁ => ?_)
           replace hF := rl hF h₁
           clear h₁
           refine goes_oper_k rfl rfl (baseD_kind _) (fun K hK => ?_)
           go_simp
           refine hK _ _ ⟨?_, ?_⟩
           · refine dn _ _ (fun e he => ?_)
             have hm := mem_listed he
             simp [go_sem, *] at hm
           clear hK K
           try w_num)
    refine Goes.stop (fun w₃ h₃ => ?_)
    replace hF := rl hF h₃
    clear h₃
    obtain ⟨mT, hT⟩ := hT _ hF.1 hF.2
    refine ⟨rfl, _, stepG_unwind_entry (v := .tuple #[]) (evs := #[mk .enable]) rfl H.f_enable (x_enable_n L) (x_enable_b L) (x_enable_x L) (x_enable_f L) (by simp [Extern.Race.none_]) (by simp [mk]) (by simp [mk]), mT + 1, ?_⟩
    refine Goes.step rfl (fun _ h₄ => ?_)
    refine goes_leave0 rfl rfl H.f_add rfl ⟨dn _ _ (fun e he => by simp at he), ?_⟩
    walk_nrm
    exact hT.rely T.trans h₄
  · -- it is more
    obtain ⟨V, hV⟩ : ∃ V : Int, V = (v : Int) + 1 := ⟨_, rfl⟩
    obtain ⟨S, hS⟩ : ∃ S : Int, S = V * KK := ⟨_, rfl⟩
    have eS : IntKind.u64.wrap ((v : Int) * KK + 4294967296) = S := by rw [IntKind.wrap_u64, hS, hV]; simp only [KK]; omega
    rw [← hV, ← hS] at hT hFw
    have a1 : S / 4294967296 = V := by rw [hS]; simp only [KK]; omega
    have b1 : bits .and .u64 S 2147483648 = 0 := by rw [hS, hV]; have := st_flag (v + 1) 0 (by omega) (by omega); simpa [KK] using this
    have b2 : bits .and .u64 S 2147483647 = 0 := by rw [hS, hV]; have := st_waiters (v + 1) 0 (by omega) (by omega); simpa [KK] using this
    have c1 : IntKind.i32.wrap V = V := by rw [IntKind.wrap_i32]; omega
    have q1 : (V == 1) = false := by simp; omega
    have q2 : decide (V = 1) = false := decide_eq_false (by omega)
    have q3 : decide (V < 0) = false := decide_eq_false (by omega)
    have q4 : decide (0 < V) = true := decide_eq_true (by omega)
    have q5 : (V == 0) = false := by simp; omega
    have q6 : decide (V = 0) = false := decide_eq_false (by omega)
    refine Goes.step rfl (fun _ h₁ => ?_)
    replace hF := rl hF h₁
    clear h₁
    refine goes_eq ((stepG_add_atomic rfl rfl (base_kind _) rfl H.f_addU64 (x_addU64_n L) (x_addU64_b L) (x_addU64_x L) .u64 (x_addU64_f L) rfl rfl hF.2.cellSt (hF.2.thaw 0)).trans (by rw [eS]; rfl)) ⟨dc_wg hne hkw hF.2 S, ?_⟩
    replace hF := And.intro (hFw _ hF.1) (hF.2.setSt S)
    clear hS hV eS
    walk_nrm
    repeat
      first
        | refine g_seq T ?_
        | refine g_end T ?_
        | refine g_skip T ?_
        | refine g_block T ?_
        | refine g_loop T ?_
        | refine g_inBlock T ?_
        | refine g_ret T ?_
        | refine g_region T rfl ?_
        | refine g_true T rfl ?_
        | refine g_false T rfl ?_
        | (refine g_no T rfl rfl ?_
           walk_nrm)
        | (refine Goes.step rfl (fun _ h₁ => ?_)
           replace hF := rl hF h₁
           clear h₁
           refine goes_oper_k rfl rfl (base_kind _) (fun K hK => ?_)
           go_simp
           refine hK _ _ ⟨?_, ?_⟩
           · refine dn _ _ (fun e he => ?_)
             have hm := mem_listed he
             simp [go_sem, *] at hm
           clear hK K
           try w_num)
        | (refine Goes.step rfl (fun _ h₁ => ?_)
           replace hF := rl hF h₁
           clear h₁
           refine goes_oper_k rfl rfl (baseD_kind _) (fun K hK => ?_)
           go_simp
           refine hK _ _ ⟨?_, ?_⟩
           · refine dn _ _ (fun e he => ?_)
             have hm := mem_listed he
             simp [go_sem, *] at hm
           clear hK K
           try w_num)
    refine Goes.step rfl (fun _ h₁ => ?_)
    replace hF := rl hF h₁
    clear h₁
    refine goes_leave1 rfl rfl H.f_uAdd rfl ⟨dn _ _ (fun e he => by simp at he), ?_⟩
    walk_nrm
    repeat
      first
        | refine g_seq T ?_
        | refine g_end T ?_
        | refine g_skip T ?_
        | refine g_block T ?_
        | refine g_loop T ?_
        | refine g_inBlock T ?_
        | refine g_ret T ?_
        | refine g_region T rfl ?_
        | refine g_true T rfl ?_
        | refine g_false T rfl ?_
        | (refine g_no T rfl rfl ?_
           walk_nrm)
        | (refine Goes.step rfl (fun _ h₁ => ?_)
           replace hF := rl hF h₁
           clear h₁
           refine goes_oper_k rfl rfl (base_kind _) (fun K hK => ?_)
           go_simp
           refine hK _ _ ⟨?_, ?_⟩
           · refine dn _ _ (fun e he => ?_)
             have hm := mem_listed he
             simp [go_sem, *] at hm
           clear hK K
           try w_num)
        | (refine Goes.step rfl (fun _ h₁ => ?_)
           replace hF := rl hF h₁
           clear h₁
           refine goes_oper_k rfl rfl (baseD_kind _) (fun K hK => ?_)
           go_simp
           refine hK _ _ ⟨?_, ?_⟩
           · refine dn _ _ (fun e he => ?_)
             have hm := mem_listed he
             simp [go_sem, *] at hm
           clear hK K
           try w_num)
    refine Goes.stop (fun w₃ h₃ => ?_)
    replace hF := rl hF h₃
    clear h₃
    obtain ⟨mT, hT⟩ := hT _ hF.1 hF.2
    refine ⟨rfl, _, stepG_unwind_entry (v := .tuple #[]) (evs := #[mk .enable]) rfl H.f_enable (x_enable_n L) (x_enable_b L) (x_enable_x L) (x_enable_f L) (by simp [Extern.Race.none_]) (by simp [mk]) (by simp [mk]), mT + 1, ?_⟩
    refine Goes.step rfl (fun _ h₄ => ?_)
    refine goes_leave0 rfl rfl H.f_add rfl ⟨dn _ _ (fun e he => by simp at he), ?_⟩
    walk_nrm
    exact hT.rely T.trans h₄
end
end Go.Ph

namespace Go.Ph
open Go Go.Conc Go.ConcN Go.RowKit Go.Conc.Lib Go.ConcR.Gen Go.ConcN.Gen Go.Proofs Go.Proofs.Ytgmjdkhegbdbjaa
open Go.ConcR (KK wgBlock WgAt stA smA rd wr mk Payload Aside2 DC0)
set_option linter.unusedVariables false
set_option linter.unusedSimpArgs false
set_option linter.unusedSectionVars false
set_option maxRecDepth 100000

section
theorem run_alI (a : Act) (o : Oper) (t : TypeId) (ht : t = 3) (ho : o.op = .alloc t) (w : World) :
    (execOp a.eval o).run Try.prog w = .ok (.value (.pointer (some ⟨w.heap.size, 0, none⟩))) (w.alloc (.cells #[.int .i64 0] 3)) ∧ (execOp a.eval o).events Try.prog w #[] = #[] := by
  subst ht
  unfold execOp
  simp only [ho]
  constructor <;> simp [go_sem]
theorem run_alC (a : Act) (o : Oper) (t : TypeId) (ht : t = 81) (ho : o.op = .alloc t) (w : World) :
    (execOp a.eval o).run Try.prog w = .ok (.value (.pointer (some ⟨w.heap.size, 0, none⟩))) (w.alloc (.cells #[.chan none] 81)) ∧ (execOp a.eval o).events Try.prog w #[] = #[] := by
  subst ht
  unfold execOp
  simp only [ho]
  constructor <;> simp [go_sem]
theorem infoPS : (Try.prog.info? 42).map (·.bytes) = some 8 := by kernel_rfl
theorem undC : Try.prog.underlying 81 = some (.chan .both 42) := by kernel_rfl
theorem run_mkC (a : Act) (o : Oper) (t : TypeId) (ht : t = 81) (ho : o.op = .makeChan t (.const (.int .i64 0))) (w : World) :
    (execOp a.eval o).run Try.prog w = .ok (.value (.chan (some w.heap.size))) (w.alloc (.chan 0 #[] false 0 0 false)) ∧ (execOp a.eval o).events Try.prog w #[] = #[] := by
  subst ht
  have hc : a.eval (.const (.int .i64 0)) = .int .i64 0 := rfl
  unfold execOp
  simp only [ho, hc]
  obtain ⟨i, hi, hb⟩ := Option.map_eq_some_iff.1 infoPS
  have h1 := run_makeChan (P := Try.prog) (w := w) undC hi .i64 0 (by omega) (by omega)
  have h2 := events_makeChan (P := Try.prog) (w := w) undC hi .i64 0 (by omega) (by omega) #[]
  rw [show ((0 : Nat) : Int) = 0 from rfl] at h1 h2
  constructor
  · simp [go_sem, h1]
  · simp [go_sem, h2]
theorem run_stI (a : Act) (o : Oper) (x y : Tmp) (t : TypeId) (ad : Addr) (i : Int) (u : Value) (ht : t = 3) (ho : o.op = .store t (.tmp x) (.tmp y)) (h : a.eval (.tmp x) = .pointer (some ad)) (h2 : a.eval (.tmp y) = .int .i64 i) (w : World) (hc : w.cell? ad = some u) (hz : w.frozen? ad = false) :
    (execOp a.eval o).run Try.prog w = .ok .skip (w.setCell ad (.int .i64 i)) ∧ (execOp a.eval o).events Try.prog w #[] = #[⟨.cell ad, true, false⟩] := by
  subst ht
  unfold execOp
  simp only [ho, h, h2]
  constructor
  · simp [go_sem, stored, hc, hz]
  · simp [go_sem, storedEv, hc, hz]
theorem run_stC (a : Act) (o : Oper) (x y : Tmp) (t : TypeId) (ad : Addr) (c : Nat) (u : Value) (ht : t = 81) (ho : o.op = .store t (.tmp x) (.tmp y)) (h : a.eval (.tmp x) = .pointer (some ad)) (h2 : a.eval (.tmp y) = .chan (some c)) (w : World) (hc : w.cell? ad = some u) (hz : w.frozen? ad = false) :
    (execOp a.eval o).run Try.prog w = .ok .skip (w.setCell ad (.chan (some c))) ∧ (execOp a.eval o).events Try.prog w #[] = #[⟨.cell ad, true, false⟩] := by
  subst ht
  unfold execOp
  simp only [ho, h, h2]
  constructor
  · simp [go_sem, stored, hc, hz]
  · simp [go_sem, storedEv, hc, hz]
theorem run_ixC (a : Act) (o : Oper) (x y : Tmp) (t : TypeId) (ad : Addr) (n i : Nat) (ht : t = 70) (ho : o.op = .indexAddr t (.tmp x) (.tmp y)) (h : a.eval (.tmp x) = .slice (some ad) n n) (h2 : a.eval (.tmp y) = .int .i64 i) (hi : i < n) (w : World) :
    (execOp a.eval o).run Try.prog w = .ok (.value (.pointer (some (ad.add i)))) w ∧ (execOp a.eval o).events Try.prog w #[] = #[] := by
  subst ht
  have hii : (i : Int) < n := by omega
  unfold execOp
  simp only [ho, h, h2]
  constructor
  · simp [go_sem, hi, hii]
  · simp [go_sem, hi, hii]
theorem run_mkF (a : Act) (o : Oper) (f : FuncId) (x1 x2 x3 x4 : Tmp) (v1 v2 v3 v4 : Value) (ho : o.op = .makeFunc (.func f) #[] #[.tmp x1, .tmp x2, .tmp x3, .tmp x4]) (h1 : a.eval (.tmp x1) = v1) (h2 : a.eval (.tmp x2) = v2) (h3 : a.eval (.tmp x3) = v3) (h4 : a.eval (.tmp x4) = v4) (w : World) :
    (execOp a.eval o).run Try.prog w = .ok (.value (.func (.func f) #[] #[v1, v2, v3, v4])) w ∧ (execOp a.eval o).events Try.prog w #[] = #[] := by
  simp only [Act.eval, Array.getD_eq_getD_getElem?] at h1 h2 h3 h4
  unfold execOp
  simp only [ho]
  constructor
  · simp [go_sem, h1, h2, h3, h4]
  · simp [go_sem, h1, h2, h3, h4]
theorem run_go (a : Act) (o : Oper) (x : Tmp) (f : FuncId) (cps : Array Value) (ho : o.op = .go { callee := .value (.tmp x), args := #[], argTypes := #[] }) (h : a.eval (.tmp x) = .func (.func f) #[] cps) (w : World) :
    (execOp a.eval o).run Try.prog w = .ok (.spawn { target := .fn (.func f) cps, args := #[] }) w ∧ (execOp a.eval o).events Try.prog w #[] = #[] := by
  unfold execOp
  simp only [ho]
  constructor
  · simp [resolve, Deferred.ofValue, h]
  · simp [resolve, Deferred.ofValue, h]
theorem run_alW (a : Act) (o : Oper) (t : TypeId) (ht : t = link.tWg) (ho : o.op = .alloc t) (w : World) :
    (execOp a.eval o).run Try.prog w = .ok (.value (.pointer (some ⟨w.heap.size, 0, none⟩))) (w.alloc (.cells #[.int .u64 0, .int .u32 0] link.tWg)) ∧ (execOp a.eval o).events Try.prog w #[] = #[] := by
  subst ht
  unfold execOp
  simp only [ho]
  constructor <;> simp [go_sem]
end
end Go.Ph

namespace Go.Ph
open Go Go.Conc Go.ConcN Go.RowKit Go.Conc.Lib Go.ConcR.Gen Go.ConcN.Gen Go.Proofs Go.Proofs.Ytgmjdkhegbdbjaa
open Go.ConcR (KK wgBlock WgAt stA smA rd wr mk Payload Aside2 DC0)
set_option linter.unusedVariables false
set_option linter.unusedSimpArgs false
set_option linter.unusedSectionVars false
set_option maxRecDepth 100000

noncomputable def body37 : Code := Try.f37.body.getD .skip
noncomputable def L37 : Code := match body37 with | .seq _ (.seq _ (.seq _ (.seq (.seq _ (.block _ (.loop c))) _))) => c | _ => .skip
noncomputable def After37 : Code := match body37 with | .seq _ (.seq _ (.seq _ (.seq _ c))) => c | _ => .skip
abbrev chT : TypeId := 81

section
variable [Payload] {W0 : World} {Wg Br Bs s0 n i : Nat} {Sh : Nat → Bool} {ks : List Kid} {xs : List Int} {w w₁ : World}

theorem termsS {ty : TypeId} {rel : TypeId} : Terms RS (DC ty Wg rel Sh (keptBy ks)) := ⟨fun _ _ _ h1 h2 => h1.trans h2, fun w => dc_none w #[] (by simp)⟩

/-- What the starter knows while it starts. -/
structure SW (W0 : World) (Wg Br Bs s0 n : Nat) (Sh : Nat → Bool) (ks : List Kid) (xs : List Int) (w : World) : Prop where
  rel : RelAt w Br xs
  arr : ∃ arr : Array Value, w.heap[Bs]? = some (.cells arr chT (0, 0)) ∧ arr.size = n ∧ ∀ (j : Nat) (k : Kid), ks[j]? = some k → arr[j]? = some (Value.chan (some k.c))
  wg : Wg < w.heap.size
  kept : ∀ b, keptBy ks b → b < w.heap.size ∧ b ≠ Bs ∧ b ≠ Wg
  ne : Bs ≠ Wg ∧ Br ≠ Wg ∧ Br ≠ Bs
  sh : ∀ b, Sh b = true → b < s0
  low : s0 ≤ Br ∧ s0 ≤ Bs ∧ s0 ≤ Wg
  old : ∀ b, b < s0 → w.heap[b]? = W0.heap[b]?
  env : w.os = W0.os ∧ w.output = W0.output

theorem SW.lts (h : SW W0 Wg Br Bs s0 n Sh ks xs w) : Bs < w.heap.size := by obtain ⟨a, h, _⟩ := h.arr; exact (Array.getElem?_eq_some_iff.1 h).1
theorem SW.move (h : SW W0 Wg Br Bs s0 n Sh ks xs w) (hs : w.heap.size ≤ w₁.heap.size) (ho : ∀ b, b < w.heap.size → b ≠ Wg → w₁.heap[b]? = w.heap[b]?) (hv : w₁.os = w.os ∧ w₁.output = w.output) : SW W0 Wg Br Bs s0 n Sh ks xs w₁ := by
  obtain ⟨arr, h1, h2⟩ := h.arr
  exact ⟨(ho Br h.rel.lt h.ne.2.1).trans h.rel, ⟨arr, (ho Bs h.lts h.ne.1).trans h1, h2⟩, Nat.lt_of_lt_of_le h.wg hs, fun b hb => ⟨Nat.lt_of_lt_of_le (h.kept b hb).1 hs, (h.kept b hb).2⟩, h.ne, h.sh, h.low, fun b hb => (ho b (Nat.lt_of_lt_of_le (Nat.lt_of_lt_of_le hb h.low.1) (Nat.le_of_lt h.rel.lt)) (fun e => by have := h.low; omega)).trans (h.old b hb), hv.1.trans h.env.1, hv.2.trans h.env.2⟩
theorem SW.rely (h : SW W0 Wg Br Bs s0 n Sh ks xs w) (r : RS w w₁) : SW W0 Wg Br Bs s0 n Sh ks xs w₁ :=
  h.move r.size (fun b hb _ => r.old b hb) ⟨r.env.os, r.env.output⟩
theorem SW.alloc (h : SW W0 Wg Br Bs s0 n Sh ks xs w) (o : Obj) : SW W0 Wg Br Bs s0 n Sh ks xs (w.alloc o) :=
  h.move (by rw [World.size_alloc]; exact Nat.le_succ _) (fun b hb _ => Below.heap_alloc _ _ _ hb) ⟨rfl, rfl⟩

/-- It makes memory that is no relation's. -/
theorem dc_alloc {ty : TypeId} {kp : Nat → Prop} (hk : ∀ b, kp b → b < w.heap.size) (o : Obj) (ho : ∀ c f, o ≠ .cells c relTy f) (es : Array Event) (hes : ∀ e ∈ es, False) : DC ty Wg relTy Sh kp w (w.alloc o) es := by
  have hs : w.heap.size ≤ (w.alloc o).heap.size := by rw [World.size_alloc]; exact Nat.le_succ _
  refine ⟨⟨rfl, rfl, rfl⟩, hs, fun b hb => ?_, fun b hb hx => hx.of (Below.heap_alloc _ _ _ hb).symm, fun hl => ?_, fun e he => (hes e he).elim⟩
  · rcases hb with hb | hb
    · exact Below.heap_alloc _ _ _ (hk b hb)
    · exact Below.heap_alloc _ _ _ hb.lt
  · have hlt := wgLive_lt hl
    obtain ⟨st, sm, h⟩ := hl
    exact ⟨st, sm, h.of_block (Below.heap_alloc _ _ _ hlt)⟩
/-- It writes a cell of its own. -/
theorem heap_set {b j : Nat} {arr : Array Value} {t : TypeId} {v : Value} (hb : w.heap[b]? = some (.cells arr t (0, 0))) : (w.setCell ⟨b, j, none⟩ v).heap[b]? = some (.cells (arr.setIfInBounds j v) t (0, 0)) := by
  rw [setCell_eq_setRow w b j arr t (0, 0) v hb, setRow_heap w b _ _ t _ hb]
theorem dc_set {ty : TypeId} {kp : Nat → Prop} {b j : Nat} {arr : Array Value} {t : TypeId} {v : Value} (hb : w.heap[b]? = some (.cells arr t (0, 0))) (hk : ¬ kp b) (ht : t ≠ relTy) (hw : b ≠ Wg) (hsh : Sh b = false) {es : Array Event} (hes : ∀ e ∈ es, e = ⟨.cell ⟨b, j, none⟩, true, false⟩) :
    DC ty Wg relTy Sh kp w (w.setCell ⟨b, j, none⟩ v) es := by
  have hA := aside_setCell w ⟨b, j, none⟩ v
  have no : ∀ (W : World) (arr' : Array Value), W.heap[b]? = some (.cells arr' t (0, 0)) → ¬ IsTy relTy W b := by
    rintro W arr' h ⟨c, f, h'⟩
    rw [h] at h'
    simp only [Option.some.injEq, Obj.cells.injEq] at h'
    exact ht h'.2.1
  have hlt : b < w.heap.size := (Array.getElem?_eq_some_iff.1 hb).1
  have n1 := no _ _ hb
  have n2 := no _ _ (heap_set (j := j) (v := v) hb)
  refine ⟨⟨hA.tape, hA.os, hA.output⟩, Nat.le_of_eq hA.size.symm, fun x hx => hA.block x fun e => ?_, fun x _ hx => ?_, fun ⟨st, sm, h⟩ => ⟨st, sm, h.of_block (hA.block Wg fun e => hw e.symm)⟩, fun e he => ?_⟩
  · subst e
    exact hx.elim hk n1
  · by_cases e : x = b
    · subst e; exact absurd hx n2
    · exact hx.of (hA.block x e).symm
  · rw [hes e he]
    exact .inl ⟨⟨b, j, none⟩, true, rfl, by rw [hA.size]; exact hlt, hw, hsh, fun _ => ⟨hk, n2⟩⟩
theorem dc_read {ty : TypeId} {kp : Nat → Prop} {ad : Addr} (hlt : ad.block < w.heap.size) (hw : ad.block ≠ Wg) (hsh : Sh ad.block = false) {es : Array Event} (hes : ∀ e ∈ es, e = ⟨.cell ad, false, false⟩) : DC ty Wg relTy Sh kp w w es :=
  ⟨.refl w, Nat.le_refl _, fun _ _ => rfl, fun _ _ h => h, id, fun e he => by rw [hes e he]; exact .inl ⟨ad, false, rfl, hlt, hw, hsh, fun h => by cases h⟩⟩
theorem SW.set (h : SW W0 Wg Br Bs s0 n Sh ks xs w) {b j : Nat} {arr : Array Value} {t : TypeId} {v : Value} (hb : w.heap[b]? = some (.cells arr t (0, 0))) (h1 : b ≠ Br) (h2 : b ≠ Bs) (h3 : b ≠ Wg) (h4 : s0 ≤ b) : SW W0 Wg Br Bs s0 n Sh ks xs (w.setCell ⟨b, j, none⟩ v) := by
  have hA := aside_setCell w ⟨b, j, none⟩ v
  obtain ⟨arr, a1, a2⟩ := h.arr
  refine ⟨(hA.block Br fun e => h1 e.symm).trans h.rel, ⟨arr, (hA.block Bs fun e => h2 e.symm).trans a1, a2⟩, by rw [hA.size]; exact h.wg, fun b hb => ⟨by rw [hA.size]; exact (h.kept b hb).1, (h.kept b hb).2⟩, h.ne, h.sh, h.low, fun x hx => (hA.block x fun e => by subst e; omega).trans (h.old x hx), hA.os.trans h.env.1, hA.output.trans h.env.2⟩
end
end Go.Ph

namespace Go.Ph
open Go Go.Conc Go.ConcN Go.RowKit Go.Conc.Lib Go.ConcR.Gen Go.ConcN.Gen Go.Proofs Go.Proofs.Ytgmjdkhegbdbjaa
open Go.ConcR (KK wgBlock WgAt stA smA rd wr mk Payload Aside2 DC0)
set_option linter.unusedVariables false
set_option linter.unusedSimpArgs false
set_option linter.unusedSectionVars false
set_option maxRecDepth 100000

section
variable [Payload] {W0 : World} {Wg Br Bs s0 n i : Nat} {Sh : Nat → Bool} {ks : List Kid} {xs : List Int} {w w₁ : World}

/-- What the slots hold at the head of the loop that starts the workers. -/
structure PS (Br Bs Wg n i : Nat) (a : Act) : Prop where
  ds : a.defers = []
  sz : a.tmps.size = 48
  s1 : a.eval (.tmp 1) = .pointer (some ⟨Br, 0, none⟩)
  s3 : a.eval (.tmp 3) = .slice (some ⟨Bs, 0, none⟩) n n
  s4 : a.eval (.tmp 4) = .pointer (some ⟨Wg, 0, none⟩)
  s15 : a.eval (.tmp 15) = .int .i64 n
  s16 : a.eval (.tmp 16) = .int .i64 i
theorem PS.put {a : Act} (h : PS Br Bs Wg n i a) {d : Nat} (hd : d ≠ 1 ∧ d ≠ 3 ∧ d ≠ 4 ∧ d ≠ 15 ∧ d ≠ 16) (v : Value) : PS Br Bs Wg n i (a.put (some d) v) :=
  ⟨h.ds, by simpa [Act.put] using h.sz, (eval_put (by omega)).trans h.s1, (eval_put (by omega)).trans h.s3, (eval_put (by omega)).trans h.s4, (eval_put (by omega)).trans h.s15, (eval_put (by omega)).trans h.s16⟩
theorem PS.same {a : Act} (h : PS Br Bs Wg n i a) {d : Nat} (hd : d < 48) (v : Value) : (a.put (some d) v).eval (.tmp d) = v := eval_put_same (by rw [h.sz]; exact hd)
theorem PS.next {a : Act} (h : PS Br Bs Wg n i a) : PS Br Bs Wg n (i + 1) (a.put (some 16) (.int .i64 ((i : Int) + 1))) :=
  ⟨h.ds, by simpa [Act.put] using h.sz, (eval_put (by omega)).trans h.s1, (eval_put (by omega)).trans h.s3, (eval_put (by omega)).trans h.s4, (eval_put (by omega)).trans h.s15, eval_put_same (by rw [h.sz]; omega)⟩

/-- A store. -/
theorem g_store {P : Program} {main : Bool} {R : World → World → Prop} {D : World → World → Array Event → Prop} {Stop : Goroutine → World → Prop} {m : Nat} {b : Frame} {a : Act} {k : List Item} {cs : List Frame} {w : World} {ops : Array Oper} {i : Nat} {rest : List Nat} {o : Oper} {u : World → World}
    (ho : ops[i]? = some o) (hg : o.guard = none) (hd : o.dst = none) (hk : b.kind ≠ .early)
    (h : ∀ w₁, R w w₁ → (execOp a.eval o).run P w₁ = .ok .skip (u w₁) ∧ D w₁ (u w₁) (listed P b.fn a o w₁) ∧ Goes P main R D Stop m (G (b.at a (.inRegion ops rest :: k)) cs) (u w₁)) :
    Goes P main R D Stop (m + 1) (G (b.at a (.inRegion ops (i :: rest) :: k)) cs) w := by
  refine Goes.step rfl fun w₁ h₁ => ?_
  obtain ⟨h1, h2, h3⟩ := h w₁ h₁
  rw [stepG_none ho (by unfold Region.wanted; rw [hg]) hk h1, hd]
  exact ⟨h2, h3⟩
/-- A value into slot d; what stands there is behind a letter. -/
theorem g_vd {P : Program} {main : Bool} {R : World → World → Prop} {D : World → World → Array Event → Prop} {Stop : Goroutine → World → Prop} {m : Nat} {b : Frame} {a : Act} {k : List Item} {cs : List Frame} {w : World} {ops : Array Oper} {i : Nat} {rest : List Nat} {o : Oper} (d : Tmp) (v : World → Value) (u : World → World)
    (ho : ops[i]? = some o) (hg : o.guard = none) (hd : o.dst = some d) (hk : b.kind ≠ .early)
    (h : ∀ w₁, R w w₁ → (execOp a.eval o).run P w₁ = .ok (.value (v w₁)) (u w₁) ∧ D w₁ (u w₁) (listed P b.fn a o w₁) ∧ ∀ a', a' = a.put (some d) (v w₁) → Goes P main R D Stop m (G (b.at a' (.inRegion ops rest :: k)) cs) (u w₁)) :
    Goes P main R D Stop (m + 1) (G (b.at a (.inRegion ops (i :: rest) :: k)) cs) w := by
  refine Goes.step rfl fun w₁ h₁ => ?_
  obtain ⟨h1, h2, h3⟩ := h w₁ h₁
  rw [stepG_value ho (by unfold Region.wanted; rw [hg]) hk h1, hd]
  exact ⟨h2, h3 _ rfl⟩
theorem quiet_S {ty rel : TypeId} {kp : Nat → Prop} {P : Program} {fn : FuncId} {a : Act} {o : Oper} {w : World} (he : (execOp a.eval o).events P w #[] = #[]) : DC ty Wg rel Sh kp w w (listed P fn a o w) := by
  rw [listed_nil he]
  exact dc_none w #[] (by simp)
theorem ev_of {P : Program} {fn : FuncId} {a : Act} {o : Oper} {w : World} {e0 : Event} (he : (execOp a.eval o).events P w #[] = #[e0]) : ∀ e ∈ listed P fn a o w, e = e0 := by
  intro e h
  have := mem_listed h
  rw [he] at this
  simpa using this

/-- while one worker is being made: its two boxes and its channel -/
structure KN (Bf Bm c i : Nat) (w : World) : Prop where
  bf : w.heap[Bf]? = some (.cells #[.int .i64 i] 3 (0, 0))
  ch : w.heap[c]? = some (.chan 0 #[] false 0 0 false)
  bm : w.heap[Bm]? = some (.cells #[.chan (some c)] chT (0, 0))

structure KO (Br Bs Wg s0 : Nat) (ks : List Kid) (Bf c Bm : Nat) : Prop where
  o1 : Br < Bf
  o2 : Bs < Bf
  o3 : Wg < Bf
  o4 : Bf < c
  o5 : c < Bm
  o6 : s0 ≤ Bf
  o7 : ∀ b, keptBy ks b → b < Bf
def ArrC (Bs n i c : Nat) (ks : List Kid) (w : World) : Prop := ∃ arr : Array Value, w.heap[Bs]? = some (.cells arr chT (0, 0)) ∧ arr.size = n ∧ (∀ (j : Nat) (k : Kid), ks[j]? = some k → arr[j]? = some (Value.chan (some k.c))) ∧ arr[i]? = some (Value.chan (some c))
theorem lt_of_heap {b : Nat} {o : Obj} (h : w.heap[b]? = some o) : b < w.heap.size := (Array.getElem?_eq_some_iff.1 h).1
theorem cell_of {b : Nat} {v : Value} {t : TypeId} (h : w.heap[b]? = some (.cells #[v] t (0, 0))) : w.cell? ⟨b, 0, none⟩ = some v ∧ w.frozen? ⟨b, 0, none⟩ = false := by simp [World.cell?, World.frozen?, h]
theorem heap_set_ne {b x j : Nat} {v : Value} (e : x ≠ b) : (w.setCell ⟨b, j, none⟩ v).heap[x]? = w.heap[x]? := (aside_setCell w ⟨b, j, none⟩ v).block x e
theorem new_alloc (o : Obj) : (w.alloc o).heap[w.heap.size]? = some o := World.alloc_heap_new w o

noncomputable def R37 (j : Nat) : Array Oper := match L37 with
  | .seq _ (.seq _ (.seq (.block _ (.seq (.region _ r5 _) (.seq (.region _ r6 _) (.seq (.region _ r7 _) (.seq (.region _ r8 _) (.region _ r9 _)))))) (.region _ r10 _))) => if j = 5 then r5 else if j = 6 then r6 else if j = 7 then r7 else if j = 8 then r8 else if j = 9 then r9 else r10
  | _ => #[]
noncomputable def C37 (j : Nat) : Code := match L37 with
  | .seq _ (.seq _ (.seq (.block _ (.seq _ (.seq _ (.seq _ (.seq _ r9))))) r10)) => if j = 9 then r9 else r10
  | _ => .skip
noncomputable def tail37 : List Item := [.inBlock 1, .code (C37 10), .inLoop L37, .inBlock 0, .code After37]

theorem SW.cellArr (h : SW W0 Wg Br Bs s0 n Sh ks xs w) (hi : i < n) : ∃ u, w.cell? ⟨Bs, i, none⟩ = some u ∧ w.frozen? ⟨Bs, i, none⟩ = false := by
  obtain ⟨arr, h1, h2, _⟩ := h.arr
  exact ⟨arr[i]'(by omega), by simp [World.cell?, h1, h2, hi], by simp [World.frozen?, h1]⟩
theorem SW.setArr (h : SW W0 Wg Br Bs s0 n Sh ks xs w) (hi : i < n) (hks : ks.length = i) (c : Nat) : SW W0 Wg Br Bs s0 n Sh ks xs (w.setCell ⟨Bs, i, none⟩ (.chan (some c))) ∧ ArrC Bs n i c ks (w.setCell ⟨Bs, i, none⟩ (.chan (some c))) := by
  have hA := aside_setCell w ⟨Bs, i, none⟩ (.chan (some c))
  obtain ⟨arr, a1, a2, a3⟩ := h.arr
  have hset := heap_set (j := i) (v := .chan (some c)) a1
  have hold : ∀ (j : Nat) (k : Kid), ks[j]? = some k → (arr.setIfInBounds i (.chan (some c)))[j]? = some (Value.chan (some k.c)) := fun j k hk => by
    have := get_lt hk
    rw [Array.getElem?_setIfInBounds_ne (by omega)]
    exact a3 j k hk
  refine ⟨⟨(hA.block Br h.ne.2.2).trans h.rel, ⟨_, hset, by simpa using a2, hold⟩, by rw [hA.size]; exact h.wg, fun b hb => ⟨by rw [hA.size]; exact (h.kept b hb).1, (h.kept b hb).2⟩, h.ne, h.sh, h.low, fun x hx => (hA.block x fun e => by have := h.low; subst e; omega).trans (h.old x hx), hA.os.trans h.env.1, hA.output.trans h.env.2⟩, _, hset, by simpa using a2, hold, ?_⟩
  rw [Array.getElem?_setIfInBounds_self_of_lt (by omega)]

theorem ArrC.rely {c : Nat} (h : ArrC Bs n i c ks w) (r : RS w w₁) : ArrC Bs n i c ks w₁ := by
  obtain ⟨arr, h1, h2⟩ := h
  exact ⟨arr, (r.old Bs (lt_of_heap h1)).trans h1, h2⟩
structure FA (W0 : World) (Wg Br Bs s0 n i : Nat) (Sh : Nat → Bool) (ks : List Kid) (xs : List Int) (Bf Bm c : Nat) (w : World) : Prop where
  sw : SW W0 Wg Br Bs s0 n Sh ks xs w
  kn : KN Bf Bm c i w
  ar : ArrC Bs n i c ks w
theorem FA.rely {Bf Bm c : Nat} (h : FA W0 Wg Br Bs s0 n i Sh ks xs Bf Bm c w) (r : RS w w₁) : FA W0 Wg Br Bs s0 n i Sh ks xs Bf Bm c w₁ :=
  ⟨h.sw.rely r, ⟨(r.old _ (lt_of_heap h.kn.bf)).trans h.kn.bf, (r.old _ (lt_of_heap h.kn.ch)).trans h.kn.ch, (r.old _ (lt_of_heap h.kn.bm)).trans h.kn.bm⟩, h.ar.rely r⟩
theorem FA.setWg {Bf Bm c : Nat} {v : Value} (h : FA W0 Wg Br Bs s0 n i Sh ks xs Bf Bm c w) (o3 : Wg < Bf) (o4 : Bf < c) (o5 : c < Bm) : FA W0 Wg Br Bs s0 n i Sh ks xs Bf Bm c (w.setCell (stA Wg) v) := by
  have hA := aside_setCell w (stA Wg) v
  have hne : ∀ b, b ≠ Wg → (w.setCell (stA Wg) v).heap[b]? = w.heap[b]? := fun b e => hA.block b e
  obtain ⟨arr, h1, h2⟩ := h.ar
  exact ⟨h.sw.move (Nat.le_of_eq hA.size.symm) (fun b _ e => hne b e) ⟨hA.os, hA.output⟩, ⟨(hne _ (by omega)).trans h.kn.bf, (hne _ (by omega)).trans h.kn.ch, (hne _ (by omega)).trans h.kn.bm⟩, arr, (hne _ h.sw.ne.1).trans h1, h2⟩

set_option maxHeartbeats 4000000 in
theorem startOne (hi : i < n) (hn : n ≤ 4) (hks : ks.length = i) {Stop : Goroutine → World → Prop} {cs : List Frame} (hne : link.tWg ≠ relTy)
    (hT : ∀ (Bf c Bm : Nat) (a : Act) (w : World), PS Br Bs Wg n i a → SW W0 Wg Br Bs s0 n Sh ks xs w → KO Br Bs Wg s0 ks Bf c Bm → KN Bf Bm c i w → ArrC Bs n i c ks w → WgAt link.tWg Wg w (((i : Int) + 1) * KK) 0 → a.eval (.tmp 5) = .pointer (some ⟨Bf, 0, none⟩) → a.eval (.tmp 6) = .pointer (some ⟨Bm, 0, none⟩) →
      ∃ m, GS Try.prog link.tWg Wg relTy Sh ks Stop m (G ((base 37).at a (.inRegion (R37 8) [] :: .code (C37 9) :: tail37)) cs) w) :
    ∀ a w, PS Br Bs Wg n i a → SW W0 Wg Br Bs s0 n Sh ks xs w → WgAt link.tWg Wg w ((i : Int) * KK) 0 →
      GS Try.prog link.tWg Wg relTy Sh ks (AtMark Try.prog .disable fun g w => ∃ m, GS Try.prog link.tWg Wg relTy Sh ks (AtMark Try.prog .enable fun g w => ∃ m, GS Try.prog link.tWg Wg relTy Sh ks Stop m g w) m g w) (12 + 32)
        (G ((base 37).at a [.code L37, .inLoop L37, .inBlock 0, .code After37]) cs) w := by
  have T : Terms RS (DC link.tWg Wg relTy Sh (keptBy ks)) := termsS
  have hkn : (base 37).kind ≠ .early := base_kind _
  intro a w hp hs hwg
  refine g_seq T ?_
  refine g_region T rfl ?_
  refine g_vd 17 (fun _ => .bool true) id rfl rfl rfl hkn fun w₁ r₁ => ?_
  replace hs := hs.rely r₁
  replace hwg := rs_wg hwg r₁
  refine ⟨(run_lt a _ _ _ _ _ i n true (by simp; omega) rfl hp.s16 hp.s15 w₁).1, quiet_S (run_lt a _ _ _ _ _ i n true (by simp; omega) rfl hp.s16 hp.s15 w₁).2, fun a1 ea => ?_⟩
  have ec : a1.eval (.tmp 17) = .bool true := ea ▸ hp.same (by omega) _
  replace hp : PS Br Bs Wg n i a1 := ea ▸ hp.put (by omega) _
  clear ea r₁
  refine g_end T ?_
  refine g_seq T ?_
  refine g_true T ec ?_
  clear ec
  refine g_skip T ?_
  refine g_seq T ?_
  refine g_block T ?_
  refine g_seq T ?_
  refine g_region T rfl ?_
  refine g_vd 18 (fun _ => .int .i64 i) id rfl rfl rfl hkn fun w₂ r₂ => ?_
  replace hs := hs.rely r₂
  replace hwg := rs_wg hwg r₂
  refine ⟨(run_mv a1 _ _ _ rfl hp.s16 w₂).1, quiet_S (run_mv a1 _ _ _ rfl hp.s16 w₂).2, fun a2 ea => ?_⟩
  have e18 : a2.eval (.tmp 18) = .int .i64 i := ea ▸ hp.same (by omega) _
  replace hp : PS Br Bs Wg n i a2 := ea ▸ hp.put (by omega) _
  clear ea r₂
  -- the box of 'first'
  refine g_vd 5 (fun w => .pointer (some ⟨w.heap.size, 0, none⟩)) (fun w => w.alloc (.cells #[.int .i64 0] 3)) rfl rfl rfl hkn fun w₃ r₃ => ?_
  replace hs := hs.rely r₃
  replace hwg := rs_wg hwg r₃
  refine ⟨(run_alI a2 _ _ rfl rfl w₃).1, dc_alloc (fun b hb => (hs.kept b hb).1) _ (fun c f h => by cases h) _ (fun e he => by rw [listed_nil (run_alI a2 _ _ rfl rfl w₃).2] at he; simp at he), fun a3 ea => ?_⟩
  have e5 : a3.eval (.tmp 5) = .pointer (some ⟨w₃.heap.size, 0, none⟩) := ea ▸ hp.same (by omega) _
  replace e18 : a3.eval (.tmp 18) = .int .i64 i := by rw [ea]; exact (eval_put (by omega)).trans e18
  replace hp : PS Br Bs Wg n i a3 := ea ▸ hp.put (by omega) _
  have o1 : Br < w₃.heap.size := hs.rel.lt
  have o2 : Bs < w₃.heap.size := hs.lts
  have o3 : Wg < w₃.heap.size := hs.wg
  have o6 : s0 ≤ w₃.heap.size := by have := hs.low; omega
  have o7 : ∀ b, keptBy ks b → b < w₃.heap.size := fun b hb => (hs.kept b hb).1
  have hb := new_alloc (w := w₃) (.cells #[.int .i64 0] 3)
  replace hs := hs.alloc (.cells #[.int .i64 0] 3)
  replace hwg : WgAt link.tWg Wg (w₃.alloc (.cells #[.int .i64 0] 3)) ((i : Int) * KK) 0 := hwg.of_block (Below.heap_alloc _ _ _ o3)
  revert hs hwg hb e5 o1 o2 o3 o6 o7
  generalize w₃.alloc _ = w₄
  generalize w₃.heap.size = Bf
  intro e5 o1 o2 o3 o6 o7 hb hs hwg
  clear ea r₃ w₃
  refine g_store (u := fun w => w.setCell ⟨Bf, 0, none⟩ (.int .i64 i)) rfl rfl rfl hkn fun w₅ r₅ => ?_
  replace hs := hs.rely r₅
  replace hwg := rs_wg hwg r₅
  replace hb := (r₅.old Bf (lt_of_heap hb)).trans hb
  have hbs : Sh Bf = false := by
    cases h : Sh Bf with
    | false => rfl
    | true => have := hs.sh _ h; omega
  refine ⟨(run_stI a3 _ _ _ _ _ _ _ rfl rfl e5 e18 w₅ (cell_of hb).1 (cell_of hb).2).1, dc_set hb (fun h => by have := o7 _ h; omega) (by decide) (by omega) hbs (ev_of (run_stI a3 _ _ _ _ _ _ _ rfl rfl e5 e18 w₅ (cell_of hb).1 (cell_of hb).2).2), ?_⟩
  replace hs := hs.set (j := 0) (v := .int .i64 i) hb (by omega) (by omega) (by omega) (by omega)
  replace hwg : WgAt link.tWg Wg (w₅.setCell ⟨Bf, 0, none⟩ (.int .i64 i)) ((i : Int) * KK) 0 := hwg.of_block (heap_set_ne (by omega))
  have hb2 : (w₅.setCell ⟨Bf, 0, none⟩ (.int .i64 i)).heap[Bf]? = some (.cells #[.int .i64 i] 3 (0, 0)) := heap_set hb
  clear hb
  revert hb2 hs hwg
  generalize w₅.setCell _ _ = w₆
  intro hs hwg hb
  clear r₅ w₅ e18
  refine g_end T ?_
  refine g_seq T ?_
  refine g_region T rfl ?_
  -- the channel
  refine g_vd 19 (fun w => .chan (some w.heap.size)) (fun w => w.alloc (.chan 0 #[] false 0 0 false)) rfl rfl rfl hkn fun w₇ r₇ => ?_
  replace hs := hs.rely r₇
  replace hwg := rs_wg hwg r₇
  replace hb := (r₇.old Bf (lt_of_heap hb)).trans hb
  refine ⟨(run_mkC a3 _ _ rfl rfl w₇).1, dc_alloc (fun b hb => (hs.kept b hb).1) _ (fun c f h => by cases h) _ (fun e he => by rw [listed_nil (run_mkC a3 _ _ rfl rfl w₇).2] at he; simp at he), fun a4 ea => ?_⟩
  have e19 : a4.eval (.tmp 19) = .chan (some w₇.heap.size) := ea ▸ hp.same (by omega) _
  replace e5 : a4.eval (.tmp 5) = .pointer (some ⟨Bf, 0, none⟩) := by rw [ea]; exact (eval_put (by omega)).trans e5
  replace hp : PS Br Bs Wg n i a4 := ea ▸ hp.put (by omega) _
  have o4 : Bf < w₇.heap.size := lt_of_heap hb
  have hc := new_alloc (w := w₇) (.chan 0 #[] false 0 0 false)
  replace hs := hs.alloc (.chan 0 #[] false 0 0 false)
  replace hb : (w₇.alloc (.chan 0 #[] false 0 0 false)).heap[Bf]? = _ := (Below.heap_alloc _ _ _ o4).trans hb
  replace hwg : WgAt link.tWg Wg (w₇.alloc (.chan 0 #[] false 0 0 false)) ((i : Int) * KK) 0 := hwg.of_block (Below.heap_alloc _ _ _ (by omega))
  revert hs hwg hb hc e19 o4
  generalize w₇.alloc _ = w₈
  generalize w₇.heap.size = c
  intro e19 o4 hc hs hb hwg
  clear ea r₇ w₇
  -- the box of 'made'
  refine g_vd 6 (fun w => .pointer (some ⟨w.heap.size, 0, none⟩)) (fun w => w.alloc (.cells #[.chan none] 81)) rfl rfl rfl hkn fun w₉ r₉ => ?_
  replace hs := hs.rely r₉
  replace hwg := rs_wg hwg r₉
  replace hb := (r₉.old Bf (lt_of_heap hb)).trans hb
  replace hc := (r₉.old c (lt_of_heap hc)).trans hc
  refine ⟨(run_alC a4 _ _ rfl rfl w₉).1, dc_alloc (fun b hb => (hs.kept b hb).1) _ (fun c f h => by cases h) _ (fun e he => by rw [listed_nil (run_alC a4 _ _ rfl rfl w₉).2] at he; simp at he), fun a5 ea => ?_⟩
  have e6 : a5.eval (.tmp 6) = .pointer (some ⟨w₉.heap.size, 0, none⟩) := ea ▸ hp.same (by omega) _
  replace e5 : a5.eval (.tmp 5) = .pointer (some ⟨Bf, 0, none⟩) := by rw [ea]; exact (eval_put (by omega)).trans e5
  replace e19 : a5.eval (.tmp 19) = .chan (some c) := by rw [ea]; exact (eval_put (by omega)).trans e19
  replace hp : PS Br Bs Wg n i a5 := ea ▸ hp.put (by omega) _
  have o5 : c < w₉.heap.size := lt_of_heap hc
  have hm := new_alloc (w := w₉) (.cells #[.chan none] chT)
  replace hs := hs.alloc (.cells #[.chan none] chT)
  replace hb : (w₉.alloc (.cells #[.chan none] chT)).heap[Bf]? = _ := (Below.heap_alloc _ _ _ (by omega)).trans hb
  replace hc : (w₉.alloc (.cells #[.chan none] chT)).heap[c]? = _ := (Below.heap_alloc _ _ _ o5).trans hc
  replace hwg : WgAt link.tWg Wg (w₉.alloc (.cells #[.chan none] chT)) ((i : Int) * KK) 0 := hwg.of_block (Below.heap_alloc _ _ _ (by omega))
  revert hs hwg hb hc hm e6 o5
  generalize w₉.alloc _ = w₁₀
  generalize w₉.heap.size = Bm
  intro e6 o5 hm hs hb hc hwg
  clear ea r₉ w₉
  refine g_store (u := fun w => w.setCell ⟨Bm, 0, none⟩ (.chan (some c))) rfl rfl rfl hkn fun w₁₁ r₁₁ => ?_
  replace hs := hs.rely r₁₁
  replace hwg := rs_wg hwg r₁₁
  replace hb := (r₁₁.old Bf (lt_of_heap hb)).trans hb
  replace hc := (r₁₁.old c (lt_of_heap hc)).trans hc
  replace hm := (r₁₁.old Bm (lt_of_heap hm)).trans hm
  have hms : Sh Bm = false := by
    cases h : Sh Bm with
    | false => rfl
    | true => have := hs.sh _ h; omega
  refine ⟨(run_stC a5 _ _ _ _ _ _ _ rfl rfl e6 e19 w₁₁ (cell_of hm).1 (cell_of hm).2).1, dc_set hm (fun h => by have := o7 _ h; omega) (by decide) (by omega) hms (ev_of (run_stC a5 _ _ _ _ _ _ _ rfl rfl e6 e19 w₁₁ (cell_of hm).1 (cell_of hm).2).2), ?_⟩
  replace hs := hs.set (j := 0) (v := .chan (some c)) hm (by omega) (by omega) (by omega) (by omega)
  replace hwg : WgAt link.tWg Wg (w₁₁.setCell ⟨Bm, 0, none⟩ (.chan (some c))) ((i : Int) * KK) 0 := hwg.of_block (heap_set_ne (by omega))
  replace hb : (w₁₁.setCell ⟨Bm, 0, none⟩ (.chan (some c))).heap[Bf]? = _ := (heap_set_ne (by omega)).trans hb
  replace hc : (w₁₁.setCell ⟨Bm, 0, none⟩ (.chan (some c))).heap[c]? = _ := (heap_set_ne (by omega)).trans hc
  have hm2 : (w₁₁.setCell ⟨Bm, 0, none⟩ (.chan (some c))).heap[Bm]? = some (.cells #[.chan (some c)] chT (0, 0)) := heap_set hm
  clear hm
  revert hm2 hs hwg hb hc
  generalize w₁₁.setCell _ _ = w₁₂
  intro hs hwg hb hc hm
  clear r₁₁ w₁₁ e19
  refine g_end T ?_
  refine g_seq T ?_
  refine g_region T rfl ?_
  refine g_vd 20 (fun _ => .slice (some ⟨Bs, 0, none⟩) n n) id rfl rfl rfl hkn fun w₁₃ r => ?_
  replace hs := hs.rely r
  replace hwg := rs_wg hwg r
  replace hb := (r.old Bf (lt_of_heap hb)).trans hb
  replace hc := (r.old c (lt_of_heap hc)).trans hc
  replace hm := (r.old Bm (lt_of_heap hm)).trans hm
  refine ⟨(run_mv a5 _ _ _ rfl hp.s3 w₁₃).1, quiet_S (run_mv a5 _ _ _ rfl hp.s3 w₁₃).2, fun a6 ea => ?_⟩
  have e20 : a6.eval (.tmp 20) = .slice (some ⟨Bs, 0, none⟩) n n := ea ▸ hp.same (by omega) _
  replace e5 : a6.eval (.tmp 5) = .pointer (some ⟨Bf, 0, none⟩) := by rw [ea]; exact (eval_put (by omega)).trans e5
  replace e6 : a6.eval (.tmp 6) = .pointer (some ⟨Bm, 0, none⟩) := by rw [ea]; exact (eval_put (by omega)).trans e6
  replace hp : PS Br Bs Wg n i a6 := ea ▸ hp.put (by omega) _
  clear ea r w₁₂
  refine g_vd 21 (fun _ => .int .i64 i) id rfl rfl rfl hkn fun w₁₄ r => ?_
  replace hs := hs.rely r
  replace hwg := rs_wg hwg r
  replace hb := (r.old Bf (lt_of_heap hb)).trans hb
  replace hc := (r.old c (lt_of_heap hc)).trans hc
  replace hm := (r.old Bm (lt_of_heap hm)).trans hm
  refine ⟨(run_ld1 a6 _ _ _ _ _ _ rfl rfl e5 w₁₄ (cell_of hb).1).1, dc_read (ad := ⟨Bf, 0, none⟩) (lt_of_heap hb) (by show Bf ≠ Wg; omega) hbs (fun e he => (run_ld1 a6 _ _ _ _ _ _ rfl rfl e5 w₁₄ (cell_of hb).1).2 e (mem_listed he)), fun a7 ea => ?_⟩
  have e21 : a7.eval (.tmp 21) = .int .i64 i := ea ▸ hp.same (by omega) _
  replace e20 : a7.eval (.tmp 20) = .slice (some ⟨Bs, 0, none⟩) n n := by rw [ea]; exact (eval_put (by omega)).trans e20
  replace e5 : a7.eval (.tmp 5) = .pointer (some ⟨Bf, 0, none⟩) := by rw [ea]; exact (eval_put (by omega)).trans e5
  replace e6 : a7.eval (.tmp 6) = .pointer (some ⟨Bm, 0, none⟩) := by rw [ea]; exact (eval_put (by omega)).trans e6
  replace hp : PS Br Bs Wg n i a7 := ea ▸ hp.put (by omega) _
  clear ea r w₁₃
  refine g_vd 22 (fun _ => .chan (some c)) id rfl rfl rfl hkn fun w₁₅ r => ?_
  replace hs := hs.rely r
  replace hwg := rs_wg hwg r
  replace hb := (r.old Bf (lt_of_heap hb)).trans hb
  replace hc := (r.old c (lt_of_heap hc)).trans hc
  replace hm := (r.old Bm (lt_of_heap hm)).trans hm
  refine ⟨(run_ldC a7 _ _ _ _ _ rfl rfl e6 w₁₅ (cell_of hm).1).1, dc_read (ad := ⟨Bm, 0, none⟩) (lt_of_heap hm) (by show Bm ≠ Wg; omega) hms (fun e he => (run_ldC a7 _ _ _ _ _ rfl rfl e6 w₁₅ (cell_of hm).1).2 e (mem_listed he)), fun a8 ea => ?_⟩
  have e22 : a8.eval (.tmp 22) = .chan (some c) := ea ▸ hp.same (by omega) _
  replace e21 : a8.eval (.tmp 21) = .int .i64 i := by rw [ea]; exact (eval_put (by omega)).trans e21
  replace e20 : a8.eval (.tmp 20) = .slice (some ⟨Bs, 0, none⟩) n n := by rw [ea]; exact (eval_put (by omega)).trans e20
  replace e5 : a8.eval (.tmp 5) = .pointer (some ⟨Bf, 0, none⟩) := by rw [ea]; exact (eval_put (by omega)).trans e5
  replace e6 : a8.eval (.tmp 6) = .pointer (some ⟨Bm, 0, none⟩) := by rw [ea]; exact (eval_put (by omega)).trans e6
  replace hp : PS Br Bs Wg n i a8 := ea ▸ hp.put (by omega) _
  clear ea r w₁₄
  refine g_vd 23 (fun _ => .pointer (some ((⟨Bs, 0, none⟩ : Addr).add i))) id rfl rfl rfl hkn fun w₁₆ r => ?_
  replace hs := hs.rely r
  replace hwg := rs_wg hwg r
  replace hb := (r.old Bf (lt_of_heap hb)).trans hb
  replace hc := (r.old c (lt_of_heap hc)).trans hc
  replace hm := (r.old Bm (lt_of_heap hm)).trans hm
  refine ⟨(run_ixC a8 _ _ _ _ _ n i rfl rfl e20 e21 hi w₁₆).1, quiet_S (run_ixC a8 _ _ _ _ _ n i rfl rfl e20 e21 hi w₁₆).2, fun a9 ea => ?_⟩
  have e23 : a9.eval (.tmp 23) = .pointer (some ⟨Bs, i, none⟩) := by rw [ea, hp.same (by omega) _]; simp [Addr.add]; intro h; omega
  replace e22 : a9.eval (.tmp 22) = .chan (some c) := by rw [ea]; exact (eval_put (by omega)).trans e22
  replace e5 : a9.eval (.tmp 5) = .pointer (some ⟨Bf, 0, none⟩) := by rw [ea]; exact (eval_put (by omega)).trans e5
  replace e6 : a9.eval (.tmp 6) = .pointer (some ⟨Bm, 0, none⟩) := by rw [ea]; exact (eval_put (by omega)).trans e6
  replace hp : PS Br Bs Wg n i a9 := ea ▸ hp.put (by omega) _
  clear ea r w₁₅ e20 e21
  refine g_store (u := fun w => w.setCell ⟨Bs, i, none⟩ (.chan (some c))) rfl rfl rfl hkn fun w₁₇ r => ?_
  replace hs := hs.rely r
  replace hwg := rs_wg hwg r
  replace hb := (r.old Bf (lt_of_heap hb)).trans hb
  replace hc := (r.old c (lt_of_heap hc)).trans hc
  replace hm := (r.old Bm (lt_of_heap hm)).trans hm
  have hss : Sh Bs = false := by
    cases h : Sh Bs with
    | false => rfl
    | true => have := hs.sh _ h; have := hs.low; omega
  obtain ⟨u, hu1, hu2⟩ := hs.cellArr hi
  refine ⟨(run_stC a9 _ _ _ _ _ _ _ rfl rfl e23 e22 w₁₇ hu1 hu2).1, ?_, ?_⟩
  · obtain ⟨arr, h1, _⟩ := hs.arr
    exact dc_set h1 (fun h => (hs.kept _ h).2.1 rfl) (by decide) hs.ne.1 hss (ev_of (run_stC a9 _ _ _ _ _ _ _ rfl rfl e23 e22 w₁₇ hu1 hu2).2)
  have hsa := hs.setArr hi hks c
  replace hwg : WgAt link.tWg Wg (w₁₇.setCell ⟨Bs, i, none⟩ (.chan (some c))) ((i : Int) * KK) 0 := hwg.of_block (heap_set_ne (fun e => hs.ne.1 e.symm))
  replace hb : (w₁₇.setCell ⟨Bs, i, none⟩ (.chan (some c))).heap[Bf]? = _ := (heap_set_ne (by omega)).trans hb
  replace hc : (w₁₇.setCell ⟨Bs, i, none⟩ (.chan (some c))).heap[c]? = _ := (heap_set_ne (by omega)).trans hc
  replace hm : (w₁₇.setCell ⟨Bs, i, none⟩ (.chan (some c))).heap[Bm]? = _ := (heap_set_ne (by omega)).trans hm
  clear hs hu1 hu2
  obtain ⟨hs, har⟩ := hsa
  revert hs har hwg hb hc hm
  generalize w₁₇.setCell _ _ = w₁₈
  intro hwg hb hc hm hs har
  clear r w₁₇ e22 e23 u w₁₆
  refine g_end T ?_
  refine g_seq T ?_
  refine g_region T rfl ?_
  refine Goes.step rfl fun w₁₉ r => ?_
  replace hs := hs.rely r
  replace hwg := rs_wg hwg r
  replace hb := (r.old Bf (lt_of_heap hb)).trans hb
  replace hc := (r.old c (lt_of_heap hc)).trans hc
  replace hm := (r.old Bm (lt_of_heap hm)).trans hm
  replace har := har.rely r
  clear r w₁₈
  refine goes_call rfl rfl hkn rfl wgLib.f_add (nm_add link) rfl ⟨T.idle _, ?_⟩
  have em : (#[Operand.tmp 4, Operand.const (Value.int IntKind.i64 1)].map a9.eval) = #[.pointer (some ⟨Wg, 0, none⟩), .int .i64 1] := by
    rw [List.map_toArray, List.map_cons, List.map_cons, List.map_nil, hp.s4]; rfl
  rw [em]
  exact addWalk (L := link) (P := Try.prog) (rel := relTy) (Sh := Sh) (ks := ks) (F := FA W0 Wg Br Bs s0 n i Sh ks xs Bf Bm c) (Stop := Stop) (ops₀ := R37 8) (i₀ := 0) (rest₀ := []) (k₀ := .code (C37 9) :: tail37) (a₀ := a9) (b₀ := base 37) wgLib hne (fun h => (hs.kept _ h).2.2 rfl) i (by omega)
    (fun w w' r h => h.rely r) (fun w h => h.setWg o3 o4 o5) (fun w h hw => hT Bf c Bm (a9.put (some 24) (.tuple #[])) w (hp.put (by omega) _) h.sw ⟨o1, o2, o3, o4, o5, o6, o7⟩ h.kn h.ar hw ((eval_put (by omega)).trans e5) ((eval_put (by omega)).trans e6)) _ ⟨hs, ⟨hb, hc, hm⟩, har⟩ hwg
end
end Go.Ph

namespace Go.Ph
open Go Go.Conc Go.ConcN Go.RowKit Go.Conc.Lib Go.ConcR.Gen Go.ConcN.Gen Go.Proofs Go.Proofs.Ytgmjdkhegbdbjaa
open Go.ConcR (KK wgBlock WgAt stA smA rd wr mk Payload Aside2 DC0)
set_option linter.unusedVariables false
set_option linter.unusedSimpArgs false
set_option linter.unusedSectionVars false
set_option maxRecDepth 100000

section
variable [Payload] {W0 : World} {Wg Br Bs s0 n i : Nat} {Sh : Nat → Bool} {ks : List Kid} {xs : List Int} {w w₁ : World} {z : Value} {An : Goroutine → World → Prop}

/-- what worker j sends -/
def valsAt (xs : List Int) (n j : Nat) : List Value := sentFrom xs j 0 (2 ^ (n - j - 1))
def kidAt (Br Bf Bm c : Nat) : Kid := ⟨c, Bm, capOf Br Bf Bm⟩

theorem kidOk {Bf c Bm : Nat} (hpay : Payload.ety = chT) (hs : SW W0 Wg Br Bs s0 n Sh ks xs w) (ho : KO Br Bs Wg s0 ks Bf c Bm) (hk : KN Bf Bm c i w) : KidOk Wg Sh ks (kidAt Br Bf Bm c) w := by
  obtain ⟨o1, o2, o3, o4, o5, o6, o7⟩ := ho
  have hsh : ∀ b, s0 ≤ b → Sh b = false := fun b hb => by
    cases h : Sh b with
    | false => rfl
    | true => have := hs.sh _ h; omega
  have hl := hs.low
  refine ⟨⟨_, _, _, hk.ch⟩, fun k' hk' e => ?_, fun b hb => ?_, ?_, .inr (.inr rfl), hsh _ (by show s0 ≤ c; omega), by show Wg < c; omega⟩
  · have := o7 k'.c ⟨k', hk', .inl rfl⟩
    have e : k'.c = c := e
    omega
  · rcases hb with rfl | rfl | rfl
    · exact ⟨hs.ne.2.1, hsh _ hl.1, _, _, _, hs.rel⟩
    · exact ⟨by omega, hsh _ o6, _, _, _, hk.bf⟩
    · exact ⟨by omega, hsh _ (by omega), _, _, _, hk.bm⟩
  · refine ⟨#[.chan (some c)], ?_, rfl⟩
    rw [hpay]
    exact hk.bm
theorem swNext {Bf c Bm : Nat} (hks : ks.length = i) (hs : SW W0 Wg Br Bs s0 n Sh ks xs w) (ho : KO Br Bs Wg s0 ks Bf c Bm) (hk : KN Bf Bm c i w) (har : ArrC Bs n i c ks w) : SW W0 Wg Br Bs s0 n Sh (ks ++ [kidAt Br Bf Bm c]) xs w := by
  obtain ⟨o1, o2, o3, o4, o5, o6, o7⟩ := ho
  obtain ⟨arr, a1, a2, a3, a4⟩ := har
  refine ⟨hs.rel, ⟨arr, a1, a2, fun j k hj => ?_⟩, hs.wg, fun b hb => ?_, hs.ne, hs.sh, hs.low, hs.old, hs.env⟩
  · by_cases e : j < ks.length
    · rw [List.getElem?_append_left e] at hj
      exact a3 j k hj
    · rw [List.getElem?_append_right (by omega)] at hj
      have := get_lt hj
      simp only [List.length_cons, List.length_nil] at this
      have e2 : j = i := by omega
      subst e2
      rw [hks, Nat.sub_self] at hj
      simp only [List.getElem?_cons_zero, Option.some.injEq] at hj
      subst hj
      exact a4
  · obtain ⟨k, hkm, hb⟩ := hb
    rcases List.mem_append.1 hkm with hkm | hkm
    · exact hs.kept b ⟨k, hkm, hb⟩
    · rw [List.mem_singleton] at hkm
      subst hkm
      rcases hb with hb | rfl | rfl | rfl
      · rw [show b = c from hb]
        exact ⟨lt_of_heap hk.ch, fun e => by have e : c = Bs := e; omega, fun e => by have e : c = Wg := e; omega⟩
      · exact ⟨hs.rel.lt, hs.ne.2.2, hs.ne.2.1⟩
      · exact ⟨lt_of_heap hk.bf, by omega, by omega⟩
      · exact ⟨lt_of_heap hk.bm, by omega, by omega⟩

set_option maxHeartbeats 2000000 in
theorem goOne (hpay : Payload.ety = chT) (hxn : xs.length = n) (hi : i < n) (hn : n ≤ 4) (hks : ks.length = i) {cs : List Frame} {Next : List Kid → Goroutine → World → Prop} {Bf c Bm : Nat} {a : Act}
    (hp : PS Br Bs Wg n i a) (hs : SW W0 Wg Br Bs s0 n Sh ks xs w) (ho : KO Br Bs Wg s0 ks Bf c Bm) (hk : KN Bf Bm c i w) (har : ArrC Bs n i c ks w) (hw : WgAt link.tWg Wg w (((i : Int) + 1) * KK) 0)
    (e5 : a.eval (.tmp 5) = .pointer (some ⟨Bf, 0, none⟩)) (e6 : a.eval (.tmp 6) = .pointer (some ⟨Bm, 0, none⟩))
    (hnext : ∀ a w, PS Br Bs Wg n i a → SW W0 Wg Br Bs s0 n Sh (ks ++ [kidAt Br Bf Bm c]) xs w → WgAt link.tWg Wg w (((i : Int) + 1) * KK) 0 → Next (ks ++ [kidAt Br Bf Bm c]) (G ((base 37).at a (.inRegion (R37 9) [] :: tail37)) cs) w) :
    ∃ m, GS Try.prog link.tWg Wg relTy Sh ks (AtGo Try.prog link.tWg Wg relTy Sh (valsAt xs n) ks Next) m (G ((base 37).at a (.inRegion (R37 8) [] :: .code (C37 9) :: tail37)) cs) w := by
  have T : Terms RS (DC link.tWg Wg relTy Sh (keptBy ks)) := termsS
  have hkn : (base 37).kind ≠ .early := base_kind _
  refine ⟨3, ?_⟩
  refine g_end T ?_
  refine g_region T rfl ?_
  refine g_vd 25 (fun _ => .func (.func 62) #[] #[.pointer (some ⟨Wg, 0, none⟩), .pointer (some ⟨Br, 0, none⟩), .pointer (some ⟨Bf, 0, none⟩), .pointer (some ⟨Bm, 0, none⟩)]) id rfl rfl rfl hkn fun w₁ r => ?_
  have hfa : FA W0 Wg Br Bs s0 n i Sh ks xs Bf Bm c w₁ := FA.rely ⟨hs, hk, har⟩ r
  replace hw := rs_wg hw r
  refine ⟨(run_mkF a _ _ _ _ _ _ _ _ _ _ rfl hp.s4 hp.s1 e5 e6 w₁).1, quiet_S (run_mkF a _ _ _ _ _ _ _ _ _ _ rfl hp.s4 hp.s1 e5 e6 w₁).2, fun a1 ea => ?_⟩
  have e25 : a1.eval (.tmp 25) = _ := ea ▸ hp.same (by omega) _
  replace hp : PS Br Bs Wg n i a1 := ea ▸ hp.put (by omega) _
  clear ea r e5 e6 hs hk har
  refine Goes.stop fun w₂ r => ?_
  replace hfa := hfa.rely r
  replace hw := rs_wg hw r
  clear r
  have hr := fun o ho => run_go a1 o _ _ _ ho e25 w₂
  have hCW : CW Wg Br Bf Bm c i xs w₂ := ⟨⟨_, _, hw⟩, hfa.sw.rel, lt_of_heap hfa.kn.bf, (cell_of hfa.kn.bf).1, lt_of_heap hfa.kn.bm, (cell_of hfa.kn.bm).1⟩
  obtain ⟨mc, hmc⟩ := childBorn (Wg := Wg) (Br := Br) (Bf := Bf) (Bm := Bm) (c := c) (f := i) (xs := xs) n hxn (by omega) hn hi
  refine ⟨rfl, kidAt Br Bf Bm c, _, _, (stepG_spawn rfl rfl hkn (hr _ rfl).1 rfl).trans (by rw [listed_nil (hr _ rfl).2]), rfl, kidOk hpay hfa.sw ho hfa.kn, ⟨mc, by rw [hks]; exact hmc _ hCW⟩, ?_⟩
  exact hnext _ _ hp (swNext hks hfa.sw ho hfa.kn hfa.ar) hw

/-- ████ The loop that starts the workers. ████ -/
theorem startLoop (hpay : Payload.ety = chT) (hne : link.tWg ≠ relTy) (hxn : xs.length = n) (hn : n ≤ 4) {cs : List Frame}
    (hlast : ∀ ks a w, ks.length = n → PS Br Bs Wg n (n - 1) a → SW W0 Wg Br Bs s0 n Sh ks xs w → WgAt link.tWg Wg w ((n : Int) * KK) 0 → RcvS Try.prog link.tWg Wg relTy Sh z An ks (listsOf (valsAt xs n) 0 ks) (G ((base 37).at a (.inRegion (R37 9) [] :: tail37)) cs) w) :
    ∀ r ks a w, ks.length + r + 1 = n → PS Br Bs Wg n ks.length a → SW W0 Wg Br Bs s0 n Sh ks xs w → WgAt link.tWg Wg w ((ks.length : Int) * KK) 0 →
      GS Try.prog link.tWg Wg relTy Sh ks (G5 Try.prog link.tWg Wg relTy Sh z An (valsAt xs n) r ks) (12 + 32) (G ((base 37).at a [.code L37, .inLoop L37, .inBlock 0, .code After37]) cs) w := by
  have hkn : (base 37).kind ≠ .early := base_kind _
  intro r
  induction r with
  | zero =>
    intro ks a w hl hp hs hw
    refine startOne (i := ks.length) (by omega) hn rfl (Stop := G2 Try.prog link.tWg Wg relTy Sh z An (valsAt xs n) 0 ks) hne ?_ a w hp hs hw
    intro Bf c Bm a w hp hs ho hk har hw e5 e6
    refine goOne hpay hxn (by omega) hn rfl hp hs ho hk har hw e5 e6 fun a w hp hs hw => ?_
    have hl2 : (ks ++ [kidAt Br Bf Bm c]).length = n := by simp; omega
    have hw2 : WgAt link.tWg Wg w ((n : Int) * KK) 0 := by
      have : ((ks.length : Int) + 1) = (n : Int) := by omega
      rw [this] at hw; exact hw
    refine ⟨by rw [hl2]; exact hw2, ?_⟩
    exact hlast _ a w hl2 (by rw [show n - 1 = ks.length by omega]; exact hp) hs hw2
  | succ r ih =>
    intro ks a w hl hp hs hw
    refine startOne (i := ks.length) (by omega) hn rfl (Stop := G2 Try.prog link.tWg Wg relTy Sh z An (valsAt xs n) (r + 1) ks) hne ?_ a w hp hs hw
    intro Bf c Bm a w hp hs ho hk har hw e5 e6
    refine goOne hpay hxn (by omega) hn rfl hp hs ho hk har hw e5 e6 fun a w hp hs hw => ?_
    have T : Terms RS (DC link.tWg Wg relTy Sh (keptBy (ks ++ [kidAt Br Bf Bm c]))) := termsS
    have hl2 : (ks ++ [kidAt Br Bf Bm c]).length = ks.length + 1 := by simp
    rw [startS_succ]
    refine ⟨12 + 32 + 7, ?_⟩
    refine g_end T ?_
    refine g_inBlock T ?_
    refine g_region T rfl ?_
    refine g_vd 26 (fun _ => .int .i64 ((ks.length : Int) + 1)) id rfl rfl rfl hkn fun w₁ r₁ => ?_
    replace hs := hs.rely r₁
    replace hw := rs_wg hw r₁
    refine ⟨(run_add a _ (.tmp 16) (.const (.int .i64 1)) _ _ ks.length 1 rfl hp.s16 rfl (by omega) w₁).1, quiet_S (run_add a _ (.tmp 16) (.const (.int .i64 1)) _ _ ks.length 1 rfl hp.s16 rfl (by omega) w₁).2, fun a1 ea => ?_⟩
    have e26 : a1.eval (.tmp 26) = .int .i64 ((ks.length : Int) + 1) := ea ▸ hp.same (by omega) _
    replace hp : PS Br Bs Wg n ks.length a1 := ea ▸ hp.put (by omega) _
    clear ea r₁
    refine g_vd 16 (fun _ => .int .i64 ((ks.length : Int) + 1)) id rfl rfl rfl hkn fun w₂ r₂ => ?_
    replace hs := hs.rely r₂
    replace hw := rs_wg hw r₂
    refine ⟨(run_mv a1 _ _ _ rfl e26 w₂).1, quiet_S (run_mv a1 _ _ _ rfl e26 w₂).2, fun a2 ea => ?_⟩
    have hp2 : PS Br Bs Wg n (ks ++ [kidAt Br Bf Bm c]).length a2 := by rw [ea, hl2]; exact hp.next
    clear ea r₂
    refine g_end T ?_
    refine g_inLoop T ?_
    exact ih _ a2 _ (by rw [hl2]; omega) hp2 hs (by rw [hl2]; exact hw)
end
end Go.Ph

namespace Go.Ph
open Go Go.Conc Go.ConcN Go.RowKit Go.Conc.Lib Go.ConcR.Gen Go.ConcN.Gen Go.Proofs Go.Proofs.Ytgmjdkhegbdbjaa
open Go.ConcR (KK wgBlock WgAt stA smA rd wr mk Payload Aside2 DC0)
open Go.Br (ShunOf WB)
open Go.ConcR (ofEvent_cell)
set_option linter.unusedVariables false
set_option linter.unusedSimpArgs false
set_option linter.unusedSectionVars false
set_option maxRecDepth 100000

section
variable [Payload] {s0 n : Nat} {Sh : Nat → Bool} {xs : List Int} {w w₁ w0 : World} {z : Value} {An : Goroutine → World → Prop}

theorem infoC : (Try.prog.info? chT).map (fun i => (i.zero, i.size, i.bytes)) = some (some (.chan none), 1, 8) := by kernel_rfl
theorem undS : Try.prog.underlying 70 = some (.slice chT) := by kernel_rfl
theorem run_mkS (a : Act) (o : Oper) (x : Tmp) (t : TypeId) (n : Nat) (hn : n ≤ 4) (ht : t = 70) (ho : o.op = .makeSlice t (.tmp x) (.tmp x)) (h : a.eval (.tmp x) = .int .i64 n) (w : World) :
    (execOp a.eval o).run Try.prog w = .ok (.value (.slice (some ⟨w.heap.size, 0, none⟩) n n)) (w.alloc (.cells (madeCells (Value.chan none).cells n) chT)) ∧ (execOp a.eval o).events Try.prog w #[] = #[] := by
  subst ht
  obtain ⟨i0, hi, hz0, hz1, hz2⟩ := info_parts infoC
  have h1 := run_make (P := Try.prog) w _ chT i0 (.chan none) undS hi hz0 .i64 .i64 n n (by omega) (by omega) (by rw [hz2]; omega) (by omega)
  have h2 := events_make (P := Try.prog) w _ chT i0 (.chan none) undS hi hz0 .i64 .i64 n n (by omega) (by omega) (by rw [hz2]; omega) (by omega) (by rw [hz2]; simp; omega) #[]
  rw [hz1, Int.toNat_natCast, Nat.mul_one] at h1
  refine ⟨?_, ?_⟩
  · unfold execOp
    simp only [ho, h]
    simp [h1]
  · unfold execOp
    simp only [ho, h]
    simp [h2]

/-- Nothing below s0 has turned. -/
structure EP (s0 sz : Nat) (w0 w : World) : Prop where
  size : w.heap.size = sz
  old : ∀ b, b < s0 → w.heap[b]? = w0.heap[b]?
  env : w.os = w0.os ∧ w.output = w0.output
theorem EP.rely {sz : Nat} (h : EP s0 sz w0 w) (r : AtRel w w₁) : EP s0 sz w0 w₁ := by
  obtain ⟨d, rfl⟩ := r; exact ⟨h.size, h.old, h.env⟩
theorem EP.alloc {sz : Nat} (h : EP s0 sz w0 w) (hs : s0 ≤ sz) (o : Obj) : EP s0 (sz + 1) w0 (w.alloc o) :=
  ⟨by rw [World.size_alloc, h.size], fun b hb => (Below.heap_alloc _ _ _ (by rw [h.size]; omega)).trans (h.old b hb), h.env⟩
theorem at_heap (r : AtRel w w₁) : w₁.heap = w.heap := by obtain ⟨d, rfl⟩ := r; rfl
def DpL (Sh : Nat → Bool) (Wg : Nat) (w w' : World) (es : Array Event) : Prop := ∀ e ∈ es, EvL (ShunOf Sh) Wg e
theorem termsL {Wg : Nat} : Terms AtRel (DpL Sh Wg) := ⟨fun _ _ _ ⟨_, h⟩ ⟨d, k⟩ => ⟨d, by subst h; subst k; rfl⟩, fun _ => by intro e he; simp at he⟩
theorem quiet_L {Wg : Nat} {w' : World} {P : Program} {fn : FuncId} {a : Act} {o : Oper} (he : (execOp a.eval o).events P w #[] = #[]) : DpL Sh Wg w w' (listed P fn a o w) := by
  rw [listed_nil he]
  intro e h; simp at h
theorem look_L {Wg : Nat} {w' : World} {P : Program} {fn : FuncId} {a : Act} {o : Oper} {ad : Addr} (hl : ad.block < Wg) (hs : Sh ad.block = false) (he : ∀ e ∈ (execOp a.eval o).events P w #[], e = ⟨.cell ad, false, false⟩) : DpL Sh Wg w w' (listed P fn a o w) := by
  intro e h
  rw [he e (mem_listed h)]
  refine ⟨fun x hx hsx => ?_, by simp, by simp, by simp only [ofEvent_cell]; exact hl⟩
  simp only [ofEvent_cell, MemAct.touch?, Option.some.injEq] at hx
  subst hx
  have hsx : Sh ad.block = true := hsx
  rw [hs] at hsx; cases hsx

set_option maxHeartbeats 2000000 in
theorem spaceStart (hpay : Payload.ety = chT) (hne : link.tWg ≠ relTy) (hxn : xs.length = n) (h1 : 1 ≤ n) (hn : n ≤ 4) {cs : List Frame} (hsz : w0.heap.size = s0) (hsh : ∀ b, Sh b = true → b < s0 ∧ ¬ IsTy relTy w0 b)
    (hlast : ∀ ks a w, ks.length = n → PS s0 (s0 + 1) (s0 + 2) n (n - 1) a → SW w0 (s0 + 2) s0 (s0 + 1) s0 n Sh ks xs w → WgAt link.tWg (s0 + 2) w ((n : Int) * KK) 0 → RcvS Try.prog link.tWg (s0 + 2) relTy Sh z An ks (listsOf (valsAt xs n) 0 ks) (G ((base 37).at a (.inRegion (R37 9) [] :: tail37)) cs) w) :
    ∀ a w, a.defers = [] → a.tmps.size = 48 → a.eval (.tmp 0) = relOf xs → EP s0 s0 w0 w →
      Goes Try.prog true AtRel (DpL Sh (s0 + 2)) (Ready Try.prog link.tWg (s0 + 2) relTy Sh z An (valsAt xs n) n) (0 + 25) (G ((base 37).at a [.code body37]) cs) w := by
  have T : Terms AtRel (DpL Sh (s0 + 2)) := termsL
  have hkn : (base 37).kind ≠ .early := base_kind _
  have hs0 : Sh s0 = false := by
    cases h : Sh s0 with
    | false => rfl
    | true => have := (hsh _ h).1; omega
  intro a w hd hz e0 hE
  refine g_seq T ?_
  refine g_region T rfl ?_
  refine g_vd 1 (fun w => .pointer (some ⟨w.heap.size, 0, none⟩)) (fun w => w.alloc (.cells #[.int .i64 xs.length, .int .i64 (Go.Proofs.Ytgmjdkhegbdbjaa.rowAt xs 0), .int .i64 (Go.Proofs.Ytgmjdkhegbdbjaa.rowAt xs 1), .int .i64 (Go.Proofs.Ytgmjdkhegbdbjaa.rowAt xs 2), .int .i64 (Go.Proofs.Ytgmjdkhegbdbjaa.rowAt xs 3)] relTy)) rfl rfl rfl hkn fun w₁ r => ?_
  replace hE := hE.rely r
  refine ⟨(run_boxR a _ _ rfl e0 w₁).1, quiet_L (run_boxR a _ _ rfl e0 w₁).2, fun a1 ea => ?_⟩
  have s1 : a1.eval (.tmp 1) = .pointer (some ⟨s0, 0, none⟩) := by rw [ea, eval_put_same (by omega), hE.size]
  replace hd : a1.defers = [] := by rw [ea]; exact hd
  replace hz : a1.tmps.size = 48 := by rw [ea]; simpa [Act.put] using hz
  have hR : RelAt (w₁.alloc (.cells #[.int .i64 xs.length, .int .i64 (Go.Proofs.Ytgmjdkhegbdbjaa.rowAt xs 0), .int .i64 (Go.Proofs.Ytgmjdkhegbdbjaa.rowAt xs 1), .int .i64 (Go.Proofs.Ytgmjdkhegbdbjaa.rowAt xs 2), .int .i64 (Go.Proofs.Ytgmjdkhegbdbjaa.rowAt xs 3)] relTy)) s0 xs := by have := RelAt.new w₁ xs; rw [hE.size] at this; exact this
  replace hE := hE.alloc (Nat.le_refl _) (.cells #[.int .i64 xs.length, .int .i64 (Go.Proofs.Ytgmjdkhegbdbjaa.rowAt xs 0), .int .i64 (Go.Proofs.Ytgmjdkhegbdbjaa.rowAt xs 1), .int .i64 (Go.Proofs.Ytgmjdkhegbdbjaa.rowAt xs 2), .int .i64 (Go.Proofs.Ytgmjdkhegbdbjaa.rowAt xs 3)] relTy)
  revert hR hE
  generalize w₁.alloc _ = w₂
  intro hR hE
  clear ea r w₁ e0
  refine g_vd 2 (fun _ => .slice none 0 0) id rfl rfl rfl hkn fun w₃ r => ?_
  replace hE := hE.rely r
  replace hR : RelAt w₃ s0 xs := by unfold RelAt; rw [at_heap r]; exact hR
  refine ⟨(run_asg a1 _ (.const (.slice none 0 0)) (.slice none 0 0) rfl rfl w₃).1, quiet_L (run_asg a1 _ (.const (.slice none 0 0)) (.slice none 0 0) rfl rfl w₃).2, fun a2 ea => ?_⟩
  replace s1 : a2.eval (.tmp 1) = .pointer (some ⟨s0, 0, none⟩) := by rw [ea]; exact (eval_put (by omega)).trans s1
  replace hd : a2.defers = [] := by rw [ea]; exact hd
  replace hz : a2.tmps.size = 48 := by rw [ea]; simpa [Act.put] using hz
  clear ea r w₂
  refine g_end T ?_
  refine g_seq T ?_
  refine g_region T rfl ?_
  refine g_vd 11 (fun _ => .pointer (some ⟨s0, 0, none⟩)) id rfl rfl rfl hkn fun w₄ r => ?_
  replace hE := hE.rely r
  replace hR : RelAt w₄ s0 xs := by unfold RelAt; rw [at_heap r]; exact hR
  refine ⟨(run_fa0 a2 _ _ _ rfl s1 w₄).1, quiet_L (run_fa0 a2 _ _ _ rfl s1 w₄).2, fun a3 ea => ?_⟩
  have s11 : a3.eval (.tmp 11) = .pointer (some ⟨s0, 0, none⟩) := by rw [ea, eval_put_same (by omega)]
  replace s1 : a3.eval (.tmp 1) = .pointer (some ⟨s0, 0, none⟩) := by rw [ea]; exact (eval_put (by omega)).trans s1
  replace hd : a3.defers = [] := by rw [ea]; exact hd
  replace hz : a3.tmps.size = 48 := by rw [ea]; simpa [Act.put] using hz
  clear ea r w₃
  refine g_vd 12 (fun _ => .int .i64 n) id rfl rfl rfl hkn fun w₅ r => ?_
  replace hE := hE.rely r
  replace hR : RelAt w₅ s0 xs := by unfold RelAt; rw [at_heap r]; exact hR
  have hc : w₅.cell? ⟨s0, 0, none⟩ = some (.int .i64 (n : Int)) := by rw [← hxn]; exact hR.cell0
  refine ⟨(run_ld1 a3 _ _ _ _ _ _ rfl rfl s11 w₅ hc).1, look_L (ad := ⟨s0, 0, none⟩) (by show s0 < s0 + 2; omega) hs0 (run_ld1 a3 _ _ _ _ _ _ rfl rfl s11 w₅ hc).2, fun a4 ea => ?_⟩
  have s12 : a4.eval (.tmp 12) = .int .i64 n := by rw [ea, eval_put_same (by omega)]
  replace s1 : a4.eval (.tmp 1) = .pointer (some ⟨s0, 0, none⟩) := by rw [ea]; exact (eval_put (by omega)).trans s1
  replace hd : a4.defers = [] := by rw [ea]; exact hd
  replace hz : a4.tmps.size = 48 := by rw [ea]; simpa [Act.put] using hz
  clear ea r w₄ hc s11
  refine g_vd 13 (fun w => .slice (some ⟨w.heap.size, 0, none⟩) n n) (fun w => w.alloc (.cells (madeCells (Value.chan none).cells n) chT)) rfl rfl rfl hkn fun w₆ r => ?_
  replace hE := hE.rely r
  replace hR : RelAt w₆ s0 xs := by unfold RelAt; rw [at_heap r]; exact hR
  refine ⟨(run_mkS a4 _ 12 _ n hn rfl rfl s12 w₆).1, quiet_L (run_mkS a4 _ 12 _ n hn rfl rfl s12 w₆).2, fun a5 ea => ?_⟩
  have s13 : a5.eval (.tmp 13) = .slice (some ⟨s0 + 1, 0, none⟩) n n := by rw [ea, eval_put_same (by omega), hE.size]
  replace s1 : a5.eval (.tmp 1) = .pointer (some ⟨s0, 0, none⟩) := by rw [ea]; exact (eval_put (by omega)).trans s1
  replace hd : a5.defers = [] := by rw [ea]; exact hd
  replace hz : a5.tmps.size = 48 := by rw [ea]; simpa [Act.put] using hz
  have hB := new_alloc (w := w₆) (.cells (madeCells (Value.chan none).cells n) chT)
  rw [hE.size] at hB
  replace hR := hR.alloc (.cells (madeCells (Value.chan none).cells n) chT)
  replace hE := hE.alloc (by omega) (.cells (madeCells (Value.chan none).cells n) chT)
  revert hR hE hB
  generalize w₆.alloc _ = w₇
  intro hB hR hE
  clear ea r w₆ s12 w₅
  refine g_vd 3 (fun _ => .slice (some ⟨s0 + 1, 0, none⟩) n n) id rfl rfl rfl hkn fun w₈ r => ?_
  replace hE := hE.rely r
  replace hR : RelAt w₈ s0 xs := by unfold RelAt; rw [at_heap r]; exact hR
  replace hB := (congrArg (·[s0 + 1]?) (at_heap r)).trans hB
  refine ⟨(run_asg a5 _ (.tmp 13) _ rfl s13 w₈).1, quiet_L (run_asg a5 _ (.tmp 13) _ rfl s13 w₈).2, fun a6 ea => ?_⟩
  have s3 : a6.eval (.tmp 3) = .slice (some ⟨s0 + 1, 0, none⟩) n n := by rw [ea, eval_put_same (by omega)]
  replace s1 : a6.eval (.tmp 1) = .pointer (some ⟨s0, 0, none⟩) := by rw [ea]; exact (eval_put (by omega)).trans s1
  replace hd : a6.defers = [] := by rw [ea]; exact hd
  replace hz : a6.tmps.size = 48 := by rw [ea]; simpa [Act.put] using hz
  clear ea r w₇ s13
  refine g_end T ?_
  refine g_seq T ?_
  refine g_region T rfl ?_
  refine g_vd 4 (fun w => .pointer (some ⟨w.heap.size, 0, none⟩)) (fun w => w.alloc (.cells #[.int .u64 0, .int .u32 0] link.tWg)) rfl rfl rfl hkn fun w₉ r => ?_
  replace hE := hE.rely r
  replace hR : RelAt w₉ s0 xs := by unfold RelAt; rw [at_heap r]; exact hR
  replace hB := (congrArg (·[s0 + 1]?) (at_heap r)).trans hB
  refine ⟨(run_alW a6 _ _ rfl rfl w₉).1, quiet_L (run_alW a6 _ _ rfl rfl w₉).2, fun a7 ea => ?_⟩
  have s4 : a7.eval (.tmp 4) = .pointer (some ⟨s0 + 2, 0, none⟩) := by rw [ea, eval_put_same (by omega), hE.size]
  replace s1 : a7.eval (.tmp 1) = .pointer (some ⟨s0, 0, none⟩) := by rw [ea]; exact (eval_put (by omega)).trans s1
  replace s3 : a7.eval (.tmp 3) = .slice (some ⟨s0 + 1, 0, none⟩) n n := by rw [ea]; exact (eval_put (by omega)).trans s3
  replace hd : a7.defers = [] := by rw [ea]; exact hd
  replace hz : a7.tmps.size = 48 := by rw [ea]; simpa [Act.put] using hz
  have hW := new_alloc (w := w₉) (.cells #[.int .u64 0, .int .u32 0] link.tWg)
  rw [hE.size] at hW
  replace hB : (w₉.alloc (.cells #[.int .u64 0, .int .u32 0] link.tWg)).heap[s0 + 1]? = _ := (Below.heap_alloc _ _ _ (by rw [hE.size]; omega)).trans hB
  replace hR := hR.alloc (.cells #[.int .u64 0, .int .u32 0] link.tWg)
  replace hE := hE.alloc (by omega) (.cells #[.int .u64 0, .int .u32 0] link.tWg)
  revert hR hE hB hW
  generalize w₉.alloc _ = w₁₀
  intro hW hB hR hE
  clear ea r w₉ w₈
  refine g_end T ?_
  refine g_seq T ?_
  refine g_seq T ?_
  refine g_region T rfl ?_
  refine g_vd 14 (fun _ => .pointer (some ⟨s0, 0, none⟩)) id rfl rfl rfl hkn fun w₁₁ r => ?_
  replace hE := hE.rely r
  replace hR : RelAt w₁₁ s0 xs := by unfold RelAt; rw [at_heap r]; exact hR
  replace hB := (congrArg (·[s0 + 1]?) (at_heap r)).trans hB
  replace hW := (congrArg (·[s0 + 2]?) (at_heap r)).trans hW
  refine ⟨(run_fa0 a7 _ _ _ rfl s1 w₁₁).1, quiet_L (run_fa0 a7 _ _ _ rfl s1 w₁₁).2, fun a8 ea => ?_⟩
  have s14 : a8.eval (.tmp 14) = .pointer (some ⟨s0, 0, none⟩) := by rw [ea, eval_put_same (by omega)]
  replace s1 : a8.eval (.tmp 1) = .pointer (some ⟨s0, 0, none⟩) := by rw [ea]; exact (eval_put (by omega)).trans s1
  replace s3 : a8.eval (.tmp 3) = .slice (some ⟨s0 + 1, 0, none⟩) n n := by rw [ea]; exact (eval_put (by omega)).trans s3
  replace s4 : a8.eval (.tmp 4) = .pointer (some ⟨s0 + 2, 0, none⟩) := by rw [ea]; exact (eval_put (by omega)).trans s4
  replace hd : a8.defers = [] := by rw [ea]; exact hd
  replace hz : a8.tmps.size = 48 := by rw [ea]; simpa [Act.put] using hz
  clear ea r w₁₀
  refine g_vd 15 (fun _ => .int .i64 n) id rfl rfl rfl hkn fun w₁₂ r => ?_
  replace hE := hE.rely r
  replace hR : RelAt w₁₂ s0 xs := by unfold RelAt; rw [at_heap r]; exact hR
  replace hB := (congrArg (·[s0 + 1]?) (at_heap r)).trans hB
  replace hW := (congrArg (·[s0 + 2]?) (at_heap r)).trans hW
  have hc : w₁₂.cell? ⟨s0, 0, none⟩ = some (.int .i64 (n : Int)) := by rw [← hxn]; exact hR.cell0
  refine ⟨(run_ld1 a8 _ _ _ _ _ _ rfl rfl s14 w₁₂ hc).1, look_L (ad := ⟨s0, 0, none⟩) (by show s0 < s0 + 2; omega) hs0 (run_ld1 a8 _ _ _ _ _ _ rfl rfl s14 w₁₂ hc).2, fun a9 ea => ?_⟩
  have s15 : a9.eval (.tmp 15) = .int .i64 n := by rw [ea, eval_put_same (by omega)]
  replace s1 : a9.eval (.tmp 1) = .pointer (some ⟨s0, 0, none⟩) := by rw [ea]; exact (eval_put (by omega)).trans s1
  replace s3 : a9.eval (.tmp 3) = .slice (some ⟨s0 + 1, 0, none⟩) n n := by rw [ea]; exact (eval_put (by omega)).trans s3
  replace s4 : a9.eval (.tmp 4) = .pointer (some ⟨s0 + 2, 0, none⟩) := by rw [ea]; exact (eval_put (by omega)).trans s4
  replace hd : a9.defers = [] := by rw [ea]; exact hd
  replace hz : a9.tmps.size = 48 := by rw [ea]; simpa [Act.put] using hz
  clear ea r hc s14 w₁₁
  refine g_vd 16 (fun _ => .int .i64 0) id rfl rfl rfl hkn fun w₁₃ r => ?_
  replace hE := hE.rely r
  replace hR : RelAt w₁₃ s0 xs := by unfold RelAt; rw [at_heap r]; exact hR
  replace hB := (congrArg (·[s0 + 1]?) (at_heap r)).trans hB
  replace hW := (congrArg (·[s0 + 2]?) (at_heap r)).trans hW
  refine ⟨(run_mv a9 _ (.const (.int .i64 0)) (.int .i64 0) rfl rfl w₁₃).1, quiet_L (run_mv a9 _ (.const (.int .i64 0)) (.int .i64 0) rfl rfl w₁₃).2, fun a10 ea => ?_⟩
  have hp : PS s0 (s0 + 1) (s0 + 2) n 0 a10 := ⟨by rw [ea]; exact hd, by rw [ea]; simpa [Act.put] using hz, by rw [ea]; exact (eval_put (by omega)).trans s1, by rw [ea]; exact (eval_put (by omega)).trans s3, by rw [ea]; exact (eval_put (by omega)).trans s4, by rw [ea]; exact (eval_put (by omega)).trans s15, by rw [ea, eval_put_same (by omega)]; rfl⟩
  clear ea r s1 s3 s4 s15 hd hz w₁₂
  refine g_end T ?_
  refine g_block T ?_
  refine g_loop T ?_
  refine Goes.stop (n := 0) fun w₁₄ r => ?_
  replace hE := hE.rely r
  replace hR : RelAt w₁₄ s0 xs := by unfold RelAt; rw [at_heap r]; exact hR
  replace hB := (congrArg (·[s0 + 1]?) (at_heap r)).trans hB
  replace hW := (congrArg (·[s0 + 2]?) (at_heap r)).trans hW
  have hWg : WgAt link.tWg (s0 + 2) w₁₄ 0 0 := hW
  have hS : SW w0 (s0 + 2) s0 (s0 + 1) s0 n Sh [] xs w₁₄ := ⟨hR, ⟨_, hB, size_madeCells _ _, fun j k hk => by simp at hk⟩, by rw [hE.size]; omega, fun b ⟨k, hk, _⟩ => by simp at hk, ⟨by omega, by omega, by omega⟩, fun b hb => (hsh b hb).1, ⟨by omega, by omega, by omega⟩, hE.old, hE.env⟩
  refine ⟨⟨_, startLoop (cs := cs) hpay hne hxn hn hlast (n - 1) [] a10 w₁₄ (by simp; omega) hp hS (by simpa using hWg)⟩, ⟨_, _, hWg⟩, ?_, fun b hb => ⟨?_, fun x => ?_⟩⟩
  · cases h : Sh (s0 + 2) with
    | false => rfl
    | true => have := (hsh _ h).1; omega
  · have := (hsh b hb).1
    rw [hE.size]; omega
  · exact (hsh b hb).2 (x.of (hE.old b (hsh b hb).1).symm)
end
end Go.Ph

namespace Go.Ph
open Go Go.Conc Go.ConcN Go.RowKit Go.Conc.Lib Go.ConcR.Gen Go.ConcN.Gen Go.Proofs Go.Proofs.Ytgmjdkhegbdbjaa
open Go.ConcR (KK wgBlock WgAt stA smA rd wr mk Payload Aside2 DC0)
set_option linter.unusedVariables false
set_option linter.unusedSimpArgs false
set_option linter.unusedSectionVars false
set_option maxRecDepth 100000

section
variable {P : Program}
/-- no atomic access of a cell -/
def Pl (e : Event) : Prop := e.sync = false ∨ ∃ m, e = ⟨.mark m, false, true⟩

theorem load_pl (w : World) (a : Addr) (es : Array Event) (hes : ∀ e ∈ es, Pl e) : ∀ ev ∈ (load a).events P w es, Pl ev := by
  intro ev h
  rw [events_load] at h
  split at h
  · rcases Array.mem_push.1 h with h | rfl
    · exact hes _ h
    · exact .inl rfl
  · split at h
    · rcases Array.mem_append.1 h with h | h
      · exact hes _ h
      · obtain ⟨x, _, rfl⟩ := Array.mem_map.1 h
        exact .inl rfl
    · exact hes _ h
theorem loadCells_pl (a : Addr) : ∀ (n i : Nat) (acc : Array Value) (w : World) (es : Array Event), (∀ e ∈ es, Pl e) → ∀ ev ∈ (loadCellsFrom a i n acc).events P w es, Pl ev
  | 0, _, _, _, es, hes => fun ev h => hes ev (by simpa [loadCellsFrom] using h)
  | n + 1, i, acc, w, es, hes => fun ev h => by
    simp only [loadCellsFrom, Sem.events_bind] at h
    cases hr : (load (a.add i)).run P w with
    | halt x w' => rw [hr] at h; exact load_pl w _ es hes ev h
    | ok v w' =>
      rw [hr] at h
      exact loadCells_pl a n (i + 1) (acc.push v) w' _ (load_pl w _ es hes) ev h
theorem firstCells_pl (size n : Nat) (v : Value) (w : World) (es : Array Event) (hes : ∀ e ∈ es, Pl e) : ∀ ev ∈ (Builtin.firstCells size n v).events P w es, Pl ev := by
  intro ev h
  unfold Builtin.firstCells at h
  split at h
  · exact loadCells_pl _ _ _ _ w es hes ev h
  · exact hes ev h
  · exact hes ev h
  · exact hes ev h
theorem storeCells_pl (g o : Nat) (t : TypeId) : ∀ (vs : List Value) (i : Nat) (cur : Array Value) (w : World) (es : Array Event), w.heap[g]? = some (.cells cur t (0, 0)) → o + i + vs.length ≤ cur.size → (∀ v ∈ vs, v.oneCell' = true) → (∀ e ∈ es, Pl e) →
    ∀ ev ∈ (storeCells ⟨g, o, none⟩ vs i).events P w es, Pl ev
  | [], _, _, _, _, _, _, _, hes => fun ev h => hes ev (by simpa [storeCells] using h)
  | v :: rest, i, cur, w, es, hg, hl, h1, hes => fun ev h => by
    have hi : o + i < cur.size := by simp at hl; omega
    have hadd : (⟨g, o, none⟩ : Addr).add i = ⟨g, o + i, none⟩ := by unfold Addr.add; split <;> simp_all
    have hcell : w.cell? ⟨g, o + i, none⟩ = some cur[o + i] := by simp [World.cell?, hg, hi]
    have hfro : w.frozen? ⟨g, o + i, none⟩ = false := by simp [World.frozen?, hg]
    have hst : (store ((⟨g, o, none⟩ : Addr).add i) v).run P w = .ok () (w.setRow g (cur.setIfInBounds (o + i) v)) := by
      rw [hadd, run_store P w _ v _ (h1 v (by simp)), hcell]
      simp [hfro, setCell_eq_setRow w g (o + i) cur t (0, 0) v hg]
    have hev : (store ((⟨g, o, none⟩ : Addr).add i) v).events P w es = es.push ⟨.cell ⟨g, o + i, none⟩, true, false⟩ := by
      rw [hadd, events_store P w es _ v _ (h1 v (by simp)), hcell]
      simp only [hfro, Bool.false_eq_true, if_false]
      rfl
    simp only [storeCells, Sem.events_bind, hst, Result.evThen_ok, hev] at h
    refine storeCells_pl g o t rest (i + 1) (cur.setIfInBounds (o + i) v) (w.setRow g (cur.setIfInBounds (o + i) v)) _ (setRow_heap w g cur _ t _ hg) (by simp at hl ⊢; omega) (fun x hx => h1 x (by simp [hx])) (fun e he => ?_) ev h
    rcases Array.mem_push.1 he with he | rfl
    · exact hes _ he
    · exact .inl rfl

/-- one value of one cell is appended to a slice of its own: the world behind it, and what is listed -/
theorem append_one (w : World) (base : Nat) (t ty e : TypeId) (i : TypeInfo) (z : Value) (bytes : Nat) (ht : P.underlying t = some (.slice e)) (hi : P.info? e = some i) (hz : i.zero = some z)
    (hsize : i.size = 1) (hby : i.bytes = bytes) (hzs : z.cells.size = 1)
    (g n cap : Nat) (xs : List Value) (hown : w.ownsRow base e 1 (.slice (some ⟨g, 0, none⟩) n cap) n xs)
    (b : Nat) (x : Value) (hx : w.heap[b]? = some (.cells #[x] e (0, 0))) (h1 : x.oneCell' = true) (h63 : n + 1 ≤ maxLen) (hbytes : (n + 1) * bytes ≤ 140737488355328) (hbase : base ≤ w.heap.size) :
    ∃ g' cap' w', (Builtin.append_ #[t, t] ty #[.slice (some ⟨g, 0, none⟩) n cap, .slice (some ⟨b, 0, none⟩) 1 1]).run P w = .ok (.slice (some ⟨g', 0, none⟩) (n + 1) cap') w' ∧ w'.ownsRow base e 1 (.slice (some ⟨g', 0, none⟩) (n + 1) cap') (n + 1) (xs ++ [x]) ∧ w.grownBy w' (some g) ∧
      (∀ b t, b < w.heap.size → IsTy t w' b → IsTy t w b) ∧
      ∀ ev ∈ (Builtin.append_ #[t, t] ty #[.slice (some ⟨g, 0, none⟩) n cap, .slice (some ⟨b, 0, none⟩) 1 1]).events P w #[], (∃ ad wt, ev = ⟨.cell ad, wt, false⟩ ∧ ((wt = false ∧ ad.block = b) ∨ ad.block = g)) ∨ ev.loc = .mark .noRoom := by
  have hnews : ∀ j u, [x][j]? = some u → w.cell? ((⟨b, 0, none⟩ : Addr).add j) = some u := by
    intro j u hj
    cases j with
    | zero => simp only [List.getElem?_cons_zero, Option.some.injEq] at hj; subst hj; simp [World.cell?, Addr.add, hx]
    | succ j => simp at hj
  have h1' : ∀ u ∈ [x], u.oneCell' = true := fun u hu => by rw [List.mem_singleton] at hu; rw [hu]; exact h1
  obtain ⟨v', w', hr, ho, hg, _⟩ := run_append_own (P := P) w base t ty e i z 1 bytes ht hi hz hsize hby hzs (by omega) _ n xs hown ⟨b, 0, none⟩ 1 1 [x] (by simp) hnews h1' h63 hbytes hbase
  have hev := events_append_where (P := P) w base t ty e i z 1 bytes ht hi hz hsize hby _ n xs hown ⟨b, 0, none⟩ 1 1 [x] (by simp) hnews h1' h63 hbytes
  have hpl : ∀ ev ∈ (Builtin.append_ #[t, t] ty #[.slice (some ⟨g, 0, none⟩) n cap, .slice (some ⟨b, 0, none⟩) 1 1]).events P w #[], Pl ev := by
    have none0 : ∀ e ∈ (#[] : Array Event), Pl e := by intro e he; simp at he
    intro ev hev
    rcases hown.2 with ⟨hn, _⟩ | ⟨g', cap', cur, hv, hbg, hgc, hnc, hcm, hcs, htake⟩
    · simp at hn
    · simp only [Value.slice.injEq, Option.some.injEq, Addr.mk.injEq, and_true, true_and] at hv
      obtain ⟨rfl, rfl⟩ := hv
      by_cases hroom : n + 1 ≤ cap
      · have hfit : n * i.size + [x].length ≤ cur.size := by rw [hsize, hcs]; simp; omega
        have hf := run_firstCells_some (P := P) w i.size 1 ⟨b, 0, none⟩ 1 1 [x] (by simp [hsize]) hnews
        simp [Builtin.append_, run_underlying ht, sizeOf, typeInfo, hi, Builtin.lenOf, hroom, hf, Addr.add_lit] at hev
        exact storeCells_pl (P := P) g (n * i.size) e [x] 0 cur w _ hgc (by simpa using hfit) h1' (firstCells_pl _ _ _ _ _ none0) ev hev
      · have holds : ∀ j u, xs[j]? = some u → w.cell? ((⟨g, 0, none⟩ : Addr).add j) = some u := hown.cells (g := g) rfl
        have hn : ¬ (n + 1 ≤ cap) := hroom
        have h63' : ¬ (9223372036854775807 < ((n : Int) + 1)) := by simp only [maxLen] at h63; omega
        have h48' : ¬ (281474976710656 < Builtin.nextslicecap (n + 1) cap * i.bytes) := by have := growslice_fits (need := n + 1) (old := cap) (bytes := i.bytes) (by omega) (by rw [hby]; exact hbytes); omega
        have hf := run_firstCells_some (P := P) w.drew i.size 1 ⟨b, 0, none⟩ 1 1 [x] (by simp [hsize]) (by simpa using hnews)
        have hfo := run_firstCells_some (P := P) w.drew i.size n ⟨g, 0, none⟩ n cap xs (by rw [hsize]; exact hown.1) (by simpa using holds)
        simp [Builtin.append_, run_underlying ht, sizeOf, typeInfo, zeroValue, hi, hz, Builtin.lenOf, hn, h63', h48', Question.forced, hf, hfo, newRow] at hev
        refine firstCells_pl _ _ _ _ _ (firstCells_pl _ _ _ _ _ fun e he => ?_) ev hev
        rcases Conc.events_askRoom _ _ _ e he with he | ⟨m, he, _⟩
        · exact none0 e he
        · exact .inr ⟨m, he⟩
  have hty : ∀ b t, b < w.heap.size → IsTy t w' b → IsTy t w b := by
    intro b' t' hb' hx'
    rcases hown.2 with ⟨hn, _⟩ | ⟨g', cap', cur, hv, hbg, hgc, hnc, hcm, hcs, htake⟩
    · simp at hn
    · simp only [Value.slice.injEq, Option.some.injEq, Addr.mk.injEq, and_true, true_and] at hv
      obtain ⟨rfl, rfl⟩ := hv
      by_cases hroom : n + 1 ≤ cap
      · have hr2 := run_append_room (P := P) w t ty e i ht hi g n cap cur hgc ⟨b, 0, none⟩ 1 1 [x] (by simp [hsize]) hnews h1' hroom (by rw [hsize, hcs]; simp; omega)
        rw [hr] at hr2
        cases hr2
        by_cases e1 : b' = g
        · subst e1
          obtain ⟨c, f, h⟩ := hx'
          rw [setRow_heap w b' cur _ e _ hgc] at h
          simp only [Option.some.injEq, Obj.cells.injEq] at h
          obtain ⟨_, rfl, _⟩ := h
          exact ⟨_, _, hgc⟩
        · exact hx'.of (setRow_other w g b' _ e1).symm
      · have holds : ∀ j u, xs[j]? = some u → w.cell? ((⟨g, 0, none⟩ : Addr).add j) = some u := hown.cells (g := g) rfl
        have hr2 := run_append_grow (P := P) w t ty e i z ht hi hz ⟨g, 0, none⟩ n cap xs (by rw [hsize]; exact hown.1) holds ⟨b, 0, none⟩ 1 1 [x] (by simp [hsize]) hnews (by omega) (by simp only [maxLen] at h63; omega) (growslice_fits (by omega) (by rw [hby]; exact hbytes))
        rw [hr] at hr2
        cases hr2
        exact hx'.of (Below.heap_alloc w.drew _ _ hb').symm
  obtain ⟨g', cap', rfl⟩ : ∃ g' cap', v' = .slice (some ⟨g', 0, none⟩) (n + 1) cap' := by
    rcases ho.2 with ⟨_, hn⟩ | ⟨g', cap', _, hv, _⟩
    · omega
    · exact ⟨g', cap', hv⟩
  refine ⟨g', cap', w', hr, ho, hg, hty, fun ev h => ?_⟩
  rcases hev ev h with ⟨ad, h2, h3⟩ | ⟨m, h2, h3⟩
  · refine .inl ⟨ad, ev.write, ?_, ?_⟩
    · rcases hpl ev h with h4 | ⟨m, rfl⟩
      · obtain ⟨l, wt, sy⟩ := ev
        simp only at h2 h4 ⊢
        rw [h2, h4]
      · simp at h2
    · rcases h3 with ⟨h3, h4⟩ | h3
      · exact .inl ⟨h3, h4⟩
      · simp only [Value.ownBlock, Option.some.injEq] at h3
        exact .inr h3
  · rw [h2, show m = .noRoom from h3]
    exact .inr rfl
end
end Go.Ph

namespace Go.Ph
open Go Go.Conc Go.ConcN Go.RowKit Go.Conc.Lib Go.ConcR.Gen Go.ConcN.Gen Go.Proofs Go.Proofs.Ytgmjdkhegbdbjaa
open Go.ConcR (KK wgBlock WgAt stA smA rd wr mk Payload Aside2 DC0)
set_option linter.unusedVariables false
set_option linter.unusedSimpArgs false
set_option linter.unusedSectionVars false
set_option maxRecDepth 100000

noncomputable def LO : Code := match After37 with | .seq _ (.seq (.seq _ (.block _ (.loop c))) _) => c | _ => .skip
noncomputable def End37 : Code := match After37 with | .seq _ (.seq _ c) => c | _ => .skip
noncomputable def LI : Code := match LO with | .seq _ (.seq _ (.seq (.block _ (.seq _ (.seq _ (.block _ (.loop c))))) _)) => c | _ => .skip
noncomputable def C19 : Code := match LO with | .seq _ (.seq _ (.seq _ r)) => r | _ => .skip
noncomputable def R16 : Array Oper := match LI with | .seq (.region _ ops _) _ => ops | _ => #[]
noncomputable def CI : Code := match LI with | .seq _ c => c | _ => .skip
noncomputable def tailO : List Item := [.inLoop LO, .inBlock 2, .code End37]
noncomputable def tailI : List Item := .inLoop LI :: .inBlock 4 :: .inBlock 3 :: .code C19 :: tailO
abbrev psT : TypeId := 42

theorem goes_imp {P : Program} {main : Bool} {R : World → World → Prop} {D : World → World → Array Event → Prop} {S S' : Goroutine → World → Prop} (h : ∀ g w, S g w → S' g w) : ∀ {n : Nat} {g : Goroutine} {w : World}, Goes P main R D S n g w → Goes P main R D S' n g w
  | 0, g, w, x => fun w₁ r => h _ _ (x w₁ r)
  | n + 1, g, w, x => by
    rcases x with x | ⟨hs, x⟩
    · exact .inl fun w₁ r => h _ _ (x w₁ r)
    · refine .inr ⟨hs, fun w₁ r => ?_⟩
      have := x w₁ r
      revert this
      cases stepG P main g w₁ <;> simp only [GStep.goes, imp_self]
      exact fun ⟨d, y⟩ => ⟨d, goes_imp h y⟩

/-- A value into slot d; value and world are told together. -/
theorem g_ex {P : Program} {main : Bool} {R : World → World → Prop} {D : World → World → Array Event → Prop} {Stop : Goroutine → World → Prop} {m : Nat} {b : Frame} {a : Act} {k : List Item} {cs : List Frame} {w : World} {ops : Array Oper} {i : Nat} {rest : List Nat} {o : Oper} (d : Tmp)
    (ho : ops[i]? = some o) (hg : o.guard = none) (hd : o.dst = some d) (hk : b.kind ≠ .early)
    (h : ∀ w₁, R w w₁ → ∃ v u, (execOp a.eval o).run P w₁ = .ok (.value v) u ∧ D w₁ u (listed P b.fn a o w₁) ∧ ∀ a', a' = a.put (some d) v → Goes P main R D Stop m (G (b.at a' (.inRegion ops rest :: k)) cs) u) :
    Goes P main R D Stop (m + 1) (G (b.at a (.inRegion ops (i :: rest) :: k)) cs) w := by
  refine Goes.step rfl fun w₁ h₁ => ?_
  obtain ⟨v, u, h1, h2, h3⟩ := h w₁ h₁
  rw [stepG_value ho (by unfold Region.wanted; rw [hg]) hk h1, hd]
  exact ⟨h2, h3 _ rfl⟩

section
theorem run_ex (a : Act) (o : Oper) (x : Tmp) (j : Nat) (vs : Array Value) (v : Value) (ho : o.op = .extract (.tmp x) j) (h : a.eval (.tmp x) = .tuple vs) (hv : vs[j]? = some v) (w : World) :
    (execOp a.eval o).run Try.prog w = .ok (.value v) w ∧ (execOp a.eval o).events Try.prog w #[] = #[] := by
  unfold execOp
  simp only [ho, h]
  constructor
  · simp [go_sem, hv]
  · simp [go_sem, hv]
theorem run_len (a : Act) (o : Oper) (x : Tmp) (t : TypeId) (ao : Option Addr) (n c : Nat) (ht : t = 70) (ho : o.op = .call { callee := .builtin .len, args := #[.tmp x], argTypes := #[t] }) (h : a.eval (.tmp x) = .slice ao n c) (w : World) :
    (execOp a.eval o).run Try.prog w = .ok (.value (.int .i64 n)) w ∧ (execOp a.eval o).events Try.prog w #[] = #[] := by
  subst ht
  unfold execOp
  simp only [ho]
  generalize a.eval = ρ at h ⊢
  constructor
  · simp [resolve, h, invoke, builtin, Builtin.len_, Builtin.lenOf, go_sem]
  · simp [resolve, h, invoke, builtin, Builtin.len_, Builtin.lenOf, go_sem]
theorem run_bs (a : Act) (o : Oper) (y : Operand) (t : TypeId) (i : Int) (ht : t = 48) (ho : o.op = .buildSlice t 1 #[(0, y)]) (h : a.eval y = .int .i64 i) (w : World) :
    (execOp a.eval o).run Try.prog w = .ok (.value (.slice (some ⟨w.heap.size, 0, none⟩) 1 1)) (w.alloc (.cells #[.int .i64 i] psT)) ∧ (execOp a.eval o).events Try.prog w #[] = #[] := by
  subst ht
  unfold execOp
  simp only [ho]
  generalize a.eval = ρ at h ⊢
  constructor
  · simp [go_sem, h]
  · simp [go_sem, h]
theorem undPs : Try.prog.underlying 48 = some (.slice psT) := by kernel_rfl
theorem infoPs : (Try.prog.info? psT).map (fun i => (i.zero, i.size, i.bytes)) = some (some (.int .i64 0), 1, 8) := by kernel_rfl
theorem stepG_recvC {P : Program} {main : Bool} {b : Frame} {a : Act} {k : List Item} {cs : List Frame} {w : World} {ops : Array Oper} {i : Nat} {rest : List Nat} {o : Oper} {x : Tmp} {t e : TypeId} {dir : ChanDir} {c : Nat} {z : Value} {ie : TypeInfo} (ho : ops[i]? = some o) (hw : Region.wanted o (yielded ops a.tmps) = true) (hk : b.kind ≠ .early)
    (hop : o.op = .recv t (.tmp x) true) (hx : a.eval (.tmp x) = .chan (some c)) (hu : P.underlying t = some (.chan dir e)) (hi : P.info? e = some ie) (hz : ie.zero = some z) :
    stepG P main (G (b.at a (.inRegion ops (i :: rest) :: k)) cs) w = .comm (G (b.at a (.inRegion ops (i :: rest) :: k)) cs) #[rcase c z] true (.recv true) w #[] := by
  have hr : (execOp a.eval o).run P w = .ok (.comm #[rcase c z] true (.recv true)) w := by
    unfold execOp
    simp [hop, hx, rcase, run_underlying hu, zeroValue, typeInfo, hi, hz]
  have he : (execOp a.eval o).events P w #[] = #[] := by
    unfold execOp
    simp [hop, run_underlying hu, zeroValue, typeInfo, hi, hz]
  rw [stepG_comm ho hw hk hr]
  simp [listed, he, seen_none]
end
end Go.Ph
