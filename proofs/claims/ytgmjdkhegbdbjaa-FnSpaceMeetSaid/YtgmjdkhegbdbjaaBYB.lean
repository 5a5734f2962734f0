/-
  sync.WaitGroup's Wait, for any program that holds the library's text: to the stops of the phase.
-/
import Derived.Test.YtgmjdkhegbdbjaaBYW
namespace Go.Ph
open Go Go.Conc Go.ConcN Go.RowKit Go.Conc.Lib Go.ConcR.Gen Go.ConcN.Gen
open Go.ConcR (KK wgBlock WgAt stA smA rd wr mk Payload Aside2 DC0)
set_option linter.unusedVariables false
set_option linter.unusedSimpArgs false
set_option linter.unusedSectionVars false
variable [Payload] {L : WgLink}



section
variable {P : Program} {Wg : Nat} {F : World → Prop}
  {b₀ : Frame} {a₀ : Act} {ops₀ : Array Oper} {i₀ : Nat} {rest₀ : List Nat} {k₀ : List Item} {cs : List Frame}

/-- Behind 'acquire': what is left of Wait leads back to its caller. -/
def WFin (P : Program) (L : WgLink) (Wg : Nat) (F : World → Prop) (back : Goroutine) (g : Goroutine) (w : World) : Prop :=
  F w ∧ WgLive L.tWg Wg w ∧ ∀ w₂, F w₂ → WgLive L.tWg Wg w₂ → ∃ m, Goes P true AtRel DC0 (fun g₂ w₃ => g₂ = back ∧ F w₃ ∧ WgLive L.tWg Wg w₃) m g w₂

theorem rc_at {ty : TypeId} {w w₁ : World} (r : AtRel w w₁) : RC ty Wg Wg w w₁ := by
  obtain ⟨d, rfl⟩ := r
  exact RC.at w d

set_option maxRecDepth 100000 in
set_option maxHeartbeats 8000000 in
/-- From Wait's entry to the loop's head. -/
theorem waitStart (H : WgLib P L) (hF2 : ∀ w w', RC L.tWg Wg Wg w w' → F w → F w') (w : World) (hF : F w ∧ WgLive L.tWg Wg w) :
    Goes P true (RC L.tWg Wg Wg) (DQ Wg) (XKd P L.tWg Wg (AnchWN L F Wg (b₀.at a₀ (.inRegion ops₀ (i₀ :: rest₀) :: k₀)) cs)) 4
      (G ((base L.wait).at ⟨#[.pointer (some ⟨Wg, 0, none⟩)] ++ Array.replicate 83 undef, []⟩ [.code (body_wait L)]) (b₀.at a₀ (.inRegion ops₀ (i₀ :: rest₀) :: k₀) :: cs)) w := by
  have rl : ∀ {w w₁ : World}, (F w ∧ WgLive L.tWg Wg w) → RC L.tWg Wg Wg w w₁ → F w₁ ∧ WgLive L.tWg Wg w₁ := fun h r => ⟨hF2 _ _ r h.1, r.live h.2⟩
  have dn : ∀ (w : World) (es : Array Event), (∀ e ∈ es, False) → DQ Wg w w es := fun w es h => dq_none w es h
  have T : Terms (RC L.tWg Wg Wg) (DQ Wg) := ⟨fun _ _ _ h1 h2 => h1.trans h2, fun w => dn w #[] (by simp)⟩
  lib_facts
  simp only [body_wait, waitFn, Option.getD_some, Array.replicate_succ, Array.replicate_zero, List.push_toArray, List.nil_append, List.cons_append, List.append_toArray]
  refine g_seq T ?_
  refine g_true T rfl ?_
  refine g_region T rfl ?_
  refine Goes.stop (fun w₁ h₁ => ?_)
  replace hF := rl hF h₁
  clear h₁
  refine ⟨rfl, _, stepG_mark0 .disable (by simp) rfl rfl (base_kind _) rfl H.f_disable (x_disable_n L) (x_disable_b L) (x_disable_x L) (x_disable_f L), 3, ?_⟩
  walk_nrm
  refine g_end T ?_
  refine g_block T ?_
  refine g_loop T ?_
  exact Goes.stop (fun w₂ h₂ => ⟨_, rfl, by simp, by simp, rl hF h₂⟩)

set_option maxRecDepth 100000 in
set_option maxHeartbeats 16000000 in
/-- From the loop's head. -/
theorem waitRound (H : WgLib P L) (hF2 : ∀ w w', RC L.tWg Wg Wg w w' → F w → F w') (g : Goroutine) (w : World) (h : AnchWN L F Wg (b₀.at a₀ (.inRegion ops₀ (i₀ :: rest₀) :: k₀)) cs g w) :
    ∃ m, Goes P true (RC L.tWg Wg Wg) (DQ Wg) (XW1 P L.tWg Wg (WFin P L Wg F (G (b₀.at (a₀.put ((ops₀[i₀]?).bind (·.dst)) (.tuple #[])) (.inRegion ops₀ rest₀ :: k₀)) cs)) (AnchWN L F Wg (b₀.at a₀ (.inRegion ops₀ (i₀ :: rest₀) :: k₀)) cs)) m g w := by
  have rl : ∀ {w w₁ : World}, (F w ∧ WgLive L.tWg Wg w) → RC L.tWg Wg Wg w w₁ → F w₁ ∧ WgLive L.tWg Wg w₁ := fun h r => ⟨hF2 _ _ r h.1, r.live h.2⟩
  have dn : ∀ (w : World) (es : Array Event), (∀ e ∈ es, False) → DQ Wg w w es := fun w es h => dq_none w es h
  have T : Terms (RC L.tWg Wg Wg) (DQ Wg) := ⟨fun _ _ _ h1 h2 => h1.trans h2, fun w => dn w #[] (by simp)⟩
  lib_facts
  obtain ⟨TT, rfl, hT84, t0, hF⟩ := h
  obtain ⟨v0, v1, v2, v3, v4, v5, v6, v7, v8, v9, v10, v11, v12, v13, v14, v15, v16, v17, v18, v19, v20, v21, v22, v23, v24, v25, v26, v27, v28, v29, v30, v31, v32, v33, v34, v35, v36, v37, v38, v39, v40, v41, v42, v43, v44, v45, v46, v47, v48, v49, v50, v51, v52, v53, v54, v55, v56, v57, v58, v59, v60, v61, v62, v63, v64, v65, v66, v67, v68, v69, v70, v71, v72, v73, v74, v75, v76, v77, v78, v79, v80, v81, v82, v83, rfl⟩ := array84 TT hT84
  simp only [List.getElem?_toArray, List.getElem?_cons_zero, Option.some.injEq] at t0
  subst t0
  refine ⟨30, ?_⟩
  simp only [L7, body_wait, waitFn, Option.getD_some]
  repeat
    first
      | refine g_seq T ?_
      | refine g_end T ?_
      | refine g_skip T ?_
      | refine g_block T ?_
      | refine g_loop T ?_
      | refine g_inBlock T ?_
      | refine g_ret T ?_
      | refine g_region T rfl ?_
      | refine g_true T rfl ?_
      | refine g_false T rfl ?_
      | (refine g_no T rfl rfl ?_
         walk_nrm)
      | (refine Goes.step rfl (fun _ h₁ => ?_)
         replace hF := rl hF h₁
         clear h₁
         refine goes_oper_k rfl rfl (base_kind _) (fun K hK => ?_)
         go_simp
         refine hK _ _ ⟨?_, ?_⟩
         · refine dn _ _ (fun e he => ?_)
           have hm := mem_listed he
           simp [go_sem, *] at hm
         clear hK K
         try w_num)
      | (refine Goes.step rfl (fun _ h₁ => ?_)
         replace hF := rl hF h₁
         clear h₁
         refine goes_oper_k rfl rfl (baseD_kind _) (fun K hK => ?_)
         go_simp
         refine hK _ _ ⟨?_, ?_⟩
         · refine dn _ _ (fun e he => ?_)
           have hm := mem_listed he
           simp [go_sem, *] at hm
         clear hK K
         try w_num)
  refine Goes.step rfl (fun _ h₁ => ?_)
  replace hF := rl hF h₁
  clear h₁
  refine goes_call rfl rfl (base_kind _) rfl H.f_uLoad (nm_uLoad L) rfl ⟨dn _ _ (fun e he => by simp at he), ?_⟩
  walk_nrmf uLoadFn
  repeat
    first
      | refine g_seq T ?_
      | refine g_end T ?_
      | refine g_skip T ?_
      | refine g_block T ?_
      | refine g_loop T ?_
      | refine g_inBlock T ?_
      | refine g_ret T ?_
      | refine g_region T rfl ?_
      | refine g_true T rfl ?_
      | refine g_false T rfl ?_
      | (refine g_no T rfl rfl ?_
         walk_nrm)
      | (refine Goes.step rfl (fun _ h₁ => ?_)
         replace hF := rl hF h₁
         clear h₁
         refine goes_oper_k rfl rfl (base_kind _) (fun K hK => ?_)
         go_simp
         refine hK _ _ ⟨?_, ?_⟩
         · refine dn _ _ (fun e he => ?_)
           have hm := mem_listed he
           simp [go_sem, *] at hm
         clear hK K
         try w_num)
      | (refine Goes.step rfl (fun _ h₁ => ?_)
         replace hF := rl hF h₁
         clear h₁
         refine goes_oper_k rfl rfl (baseD_kind _) (fun K hK => ?_)
         go_simp
         refine hK _ _ ⟨?_, ?_⟩
         · refine dn _ _ (fun e he => ?_)
           have hm := mem_listed he
           simp [go_sem, *] at hm
         clear hK K
         try w_num)
  refine Goes.stop (fun w₁ h₁ => ?_)
  replace hF := rl hF h₁
  clear h₁
  refine ⟨rfl, fun v hv hw => ?_⟩
  -- behind 'acquire', by either road
  have tail : ∀ {w₂ : World} {g₂ : Goroutine}, F w₂ ∧ WgLive L.tWg Wg w₂ → (∀ w₃, F w₃ ∧ WgLive L.tWg Wg w₃ → ∃ m, Goes P true AtRel DC0 (fun g₂ w₃ => g₂ = (G (b₀.at (a₀.put ((ops₀[i₀]?).bind (·.dst)) (.tuple #[])) (.inRegion ops₀ rest₀ :: k₀)) cs) ∧ F w₃ ∧ WgLive L.tWg Wg w₃) m g₂ w₃) →
      ∀ w₁, RC L.tWg Wg Wg w₂ w₁ → WgAt L.tWg Wg w₁ 0 0 → WFin P L Wg F (G (b₀.at (a₀.put ((ops₀[i₀]?).bind (·.dst)) (.tuple #[])) (.inRegion ops₀ rest₀ :: k₀)) cs) g₂ w₁ :=
    fun hf hg w₁ hr _ => ⟨(rl hf hr).1, (rl hf hr).2, fun w₃ h1 h2 => hg w₃ ⟨h1, h2⟩⟩
  have rq : ∀ {w w₁ : World}, (F w ∧ WgLive L.tWg Wg w) → AtRel w w₁ → F w₁ ∧ WgLive L.tWg Wg w₁ := fun h r => rl h (rc_at r)
  have dq : ∀ (w : World) (es : Array Event), (∀ e ∈ es, False) → DC0 w w es := fun w es h => d0_none w es h
  have Tq : Terms AtRel DC0 := ⟨fun _ _ _ h1 h2 => atRel_trans _ _ _ h1 h2, fun w => dq w #[] (by simp)⟩
  rcases Nat.eq_zero_or_pos v with rfl | hvp
  · -- it reads 0
    replace hw : WgAt L.tWg Wg w₁ 0 0 := by simpa using hw
    refine ⟨_, stepG_load_atomic (v := 0) rfl rfl (base_kind _) rfl H.f_loadU64 (x_loadU64_n L) (x_loadU64_b L) (x_loadU64_x L) .u64 (x_loadU64_f L) rfl hw.cellSt, fun _ => ⟨50, ?_⟩, fun h => absurd rfl h⟩
    clear hw
    walk_nrm
    repeat
      first
        | refine g_seq T ?_
        | refine g_end T ?_
        | refine g_skip T ?_
        | refine g_block T ?_
        | refine g_loop T ?_
        | refine g_inBlock T ?_
        | refine g_ret T ?_
        | refine g_region T rfl ?_
        | refine g_true T rfl ?_
        | refine g_false T rfl ?_
        | (refine g_no T rfl rfl ?_
           walk_nrm)
        | (refine Goes.step rfl (fun _ h₁ => ?_)
           replace hF := rl hF h₁
           clear h₁
           refine goes_oper_k rfl rfl (base_kind _) (fun K hK => ?_)
           go_simp
           refine hK _ _ ⟨?_, ?_⟩
           · refine dn _ _ (fun e he => ?_)
             have hm := mem_listed he
             simp [go_sem, *] at hm
           clear hK K
           try w_num)
        | (refine Goes.step rfl (fun _ h₁ => ?_)
           replace hF := rl hF h₁
           clear h₁
           refine goes_oper_k rfl rfl (baseD_kind _) (fun K hK => ?_)
           go_simp
           refine hK _ _ ⟨?_, ?_⟩
           · refine dn _ _ (fun e he => ?_)
             have hm := mem_listed he
             simp [go_sem, *] at hm
           clear hK K
           try w_num)
    refine Goes.step rfl (fun _ h₁ => ?_)
    replace hF := rl hF h₁
    clear h₁
    refine goes_leave1 rfl rfl H.f_uLoad rfl ⟨dn _ _ (fun e he => by simp at he), ?_⟩
    walk_nrm
    repeat
      first
        | refine g_seq T ?_
        | refine g_end T ?_
        | refine g_skip T ?_
        | refine g_block T ?_
        | refine g_loop T ?_
        | refine g_inBlock T ?_
        | refine g_ret T ?_
        | refine g_region T rfl ?_
        | refine g_true T rfl ?_
        | refine g_false T rfl ?_
        | (refine g_no T rfl rfl ?_
           walk_nrm)
        | (refine Goes.step rfl (fun _ h₁ => ?_)
           replace hF := rl hF h₁
           clear h₁
           refine goes_oper_k rfl rfl (base_kind _) (fun K hK => ?_)
           go_simp
           refine hK _ _ ⟨?_, ?_⟩
           · refine dn _ _ (fun e he => ?_)
             have hm := mem_listed he
             simp [go_sem, *] at hm
           clear hK K
           try w_num)
        | (refine Goes.step rfl (fun _ h₁ => ?_)
           replace hF := rl hF h₁
           clear h₁
           refine goes_oper_k rfl rfl (baseD_kind _) (fun K hK => ?_)
           go_simp
           refine hK _ _ ⟨?_, ?_⟩
           · refine dn _ _ (fun e he => ?_)
             have hm := mem_listed he
             simp [go_sem, *] at hm
           clear hK K
           try w_num)
    refine Goes.stop (fun w₅ h₅ => ?_)
    replace hF := rl hF h₅
    clear h₅
    refine ⟨rfl, _, stepG_mark0 .enable (by simp) rfl rfl (base_kind _) rfl H.f_enable (x_enable_n L) (x_enable_b L) (x_enable_x L) (x_enable_f L), 12, ?_⟩
    walk_nrm
    refine g_end T ?_
    refine g_region T rfl ?_
    refine Goes.step rfl (fun _ h₁ => ?_)
    replace hF := rl hF h₁
    clear h₁
    refine goes_oper_k rfl (by first | rfl | (simp [*]; done)) (base_kind _) (fun K hK => ?_)
    go_simp
    refine hK _ _ ⟨?_, ?_⟩
    · refine dn _ _ (fun e he => ?_)
      have hm := mem_listed he
      simp [go_sem, *] at hm
    clear hK K
    try w_num
    refine Goes.step rfl (fun _ h₁ => ?_)
    replace hF := rl hF h₁
    clear h₁
    refine goes_oper_k rfl rfl (base_kind _) (fun K hK => ?_)
    have hcv := run_convert_to_unsafe (P := P) H.underlying_tWgP H.underlying_tUP H.room_tWg (WgLive.cell0 hF.2).choose_spec
    have hce := fun es => events_convert_to_unsafe (P := P) H.underlying_tWgP H.underlying_tUP H.room_tWg (WgLive.cell0 hF.2).choose_spec es
    go_simp
    refine hK _ _ ⟨?_, ?_⟩
    · refine dn _ _ (fun e he => ?_)
      have hm := mem_listed he
      simp [go_sem, *] at hm
    clear hK K hcv hce
    try w_num
    refine Goes.stop (fun w₆ h₆ => ?_)
    replace hF := rl hF h₆
    clear h₆
    refine ⟨rfl, _, stepG_markAt .acquire (by simp) rfl rfl (base_kind _) rfl H.f_acquire (x_acquire_n L) (x_acquire_b L) (x_acquire_x L) (x_acquire_f L) (by simp [Act.eval, stA]), tail hF fun w₃ hF => ⟨30, ?_⟩⟩
    clear rl dn T
    have rl := @rq
    have dn := dq
    have T := Tq
    clear rq dq Tq tail
    walk_nrm
    repeat
      first
        | refine g_seq T ?_
        | refine g_end T ?_
        | refine g_skip T ?_
        | refine g_block T ?_
        | refine g_loop T ?_
        | refine g_inBlock T ?_
        | refine g_ret T ?_
        | refine g_region T rfl ?_
        | refine g_true T rfl ?_
        | refine g_false T rfl ?_
        | (refine g_no T rfl rfl ?_
           walk_nrm)
        | (refine Goes.step rfl (fun _ h₁ => ?_)
           replace hF := rl hF h₁
           clear h₁
           refine goes_oper_k rfl rfl (base_kind _) (fun K hK => ?_)
           go_simp
           refine hK _ _ ⟨?_, ?_⟩
           · refine dn _ _ (fun e he => ?_)
             have hm := mem_listed he
             simp [go_sem, *] at hm
           clear hK K
           try w_num)
        | (refine Goes.step rfl (fun _ h₁ => ?_)
           replace hF := rl hF h₁
           clear h₁
           refine goes_oper_k rfl rfl (baseD_kind _) (fun K hK => ?_)
           go_simp
           refine hK _ _ ⟨?_, ?_⟩
           · refine dn _ _ (fun e he => ?_)
             have hm := mem_listed he
             simp [go_sem, *] at hm
           clear hK K
           try w_num)
    refine Goes.step rfl (fun _ h₁ => ?_)
    replace hF := rl hF h₁
    clear h₁
    refine goes_leave0 rfl rfl H.f_wait rfl ⟨dn _ _ (fun e he => by simp at he), ?_⟩
    walk_nrm
    exact Goes.stop fun w₄ h₄ => ⟨rfl, rl hF h₄⟩
  · -- it reads v * 2^32, v > 0
    obtain ⟨S, hS⟩ : ∃ S : Int, (v : Int) * KK = S := ⟨_, rfl⟩
    have a1 : S / 4294967296 = (v : Int) := by rw [← hS]; simp only [KK]; omega
    have b1 : bits .and .u64 S 2147483648 = 0 := by rw [← hS]; have := st_flag v 0 (by omega) (by omega); simpa [KK] using this
    have b2 : bits .and .u64 S 2147483647 = 0 := by rw [← hS]; have := st_waiters v 0 (by omega) (by omega); simpa [KK] using this
    have c1 : IntKind.i32.wrap (v : Int) = (v : Int) := by rw [IntKind.wrap_i32]; omega
    have w1 : IntKind.u64.wrap (S + 1) = S + 1 := by rw [IntKind.wrap_u64, ← hS]; simp only [KK]; omega
    have q3 : decide ((v : Int) < 0) = false := decide_eq_false (by omega)
    have q4 : decide (0 < (v : Int)) = true := decide_eq_true (by omega)
    have q5 : ((v : Int) == 0) = false := by simp; omega
    have q6 : decide ((v : Int) = 0) = false := decide_eq_false (by omega)
    rw [hS] at hw
    refine ⟨_, stepG_load_atomic (v := S) rfl rfl (base_kind _) rfl H.f_loadU64 (x_loadU64_n L) (x_loadU64_b L) (x_loadU64_x L) .u64 (x_loadU64_f L) rfl hw.cellSt, fun h0 => absurd h0 (by omega), fun _ => ⟨60, ?_⟩⟩
    clear hw
    walk_nrm
    repeat
      first
        | refine g_seq T ?_
        | refine g_end T ?_
        | refine g_skip T ?_
        | refine g_block T ?_
        | refine g_loop T ?_
        | refine g_inBlock T ?_
        | refine g_ret T ?_
        | refine g_region T rfl ?_
        | refine g_true T rfl ?_
        | refine g_false T rfl ?_
        | (refine g_no T rfl rfl ?_
           walk_nrm)
        | (refine Goes.step rfl (fun _ h₁ => ?_)
           replace hF := rl hF h₁
           clear h₁
           refine goes_oper_k rfl rfl (base_kind _) (fun K hK => ?_)
           go_simp
           refine hK _ _ ⟨?_, ?_⟩
           · refine dn _ _ (fun e he => ?_)
             have hm := mem_listed he
             simp [go_sem, *] at hm
           clear hK K
           try w_num)
        | (refine Goes.step rfl (fun _ h₁ => ?_)
           replace hF := rl hF h₁
           clear h₁
           refine goes_oper_k rfl rfl (baseD_kind _) (fun K hK => ?_)
           go_simp
           refine hK _ _ ⟨?_, ?_⟩
           · refine dn _ _ (fun e he => ?_)
             have hm := mem_listed he
             simp [go_sem, *] at hm
           clear hK K
           try w_num)
    refine Goes.step rfl (fun _ h₁ => ?_)
    replace hF := rl hF h₁
    clear h₁
    refine goes_leave1 rfl rfl H.f_uLoad rfl ⟨dn _ _ (fun e he => by simp at he), ?_⟩
    walk_nrm
    repeat
      first
        | refine g_seq T ?_
        | refine g_end T ?_
        | refine g_skip T ?_
        | refine g_block T ?_
        | refine g_loop T ?_
        | refine g_inBlock T ?_
        | refine g_ret T ?_
        | refine g_region T rfl ?_
        | refine g_true T rfl ?_
        | refine g_false T rfl ?_
        | (refine g_no T rfl rfl ?_
           walk_nrm)
        | (refine Goes.step rfl (fun _ h₁ => ?_)
           replace hF := rl hF h₁
           clear h₁
           refine goes_oper_k rfl rfl (base_kind _) (fun K hK => ?_)
           go_simp
           refine hK _ _ ⟨?_, ?_⟩
           · refine dn _ _ (fun e he => ?_)
             have hm := mem_listed he
             simp [go_sem, *] at hm
           clear hK K
           try w_num)
        | (refine Goes.step rfl (fun _ h₁ => ?_)
           replace hF := rl hF h₁
           clear h₁
           refine goes_oper_k rfl rfl (baseD_kind _) (fun K hK => ?_)
           go_simp
           refine hK _ _ ⟨?_, ?_⟩
           · refine dn _ _ (fun e he => ?_)
             have hm := mem_listed he
             simp [go_sem, *] at hm
           clear hK K
           try w_num)
    refine Goes.step rfl (fun _ h₁ => ?_)
    replace hF := rl hF h₁
    clear h₁
    refine goes_call rfl rfl (base_kind _) rfl H.f_uCas (nm_uCas L) rfl ⟨dn _ _ (fun e he => by simp at he), ?_⟩
    walk_nrmf uCasFn
    repeat
      first
        | refine g_seq T ?_
        | refine g_end T ?_
        | refine g_skip T ?_
        | refine g_block T ?_
        | refine g_loop T ?_
        | refine g_inBlock T ?_
        | refine g_ret T ?_
        | refine g_region T rfl ?_
        | refine g_true T rfl ?_
        | refine g_false T rfl ?_
        | (refine g_no T rfl rfl ?_
           walk_nrm)
        | (refine Goes.step rfl (fun _ h₁ => ?_)
           replace hF := rl hF h₁
           clear h₁
           refine goes_oper_k rfl rfl (base_kind _) (fun K hK => ?_)
           go_simp
           refine hK _ _ ⟨?_, ?_⟩
           · refine dn _ _ (fun e he => ?_)
             have hm := mem_listed he
             simp [go_sem, *] at hm
           clear hK K
           try w_num)
        | (refine Goes.step rfl (fun _ h₁ => ?_)
           replace hF := rl hF h₁
           clear h₁
           refine goes_oper_k rfl rfl (baseD_kind _) (fun K hK => ?_)
           go_simp
           refine hK _ _ ⟨?_, ?_⟩
           · refine dn _ _ (fun e he => ?_)
             have hm := mem_listed he
             simp [go_sem, *] at hm
           clear hK K
           try w_num)
    refine Goes.stop (fun w₂ h₂ => ?_)
    replace hF := rl hF h₂
    clear h₂
    refine ⟨rfl, fun v' hv' hw => ⟨fun e => ?_, fun e => ?_⟩⟩
    · -- it hits
      subst e
      rw [hS] at hw ⊢
      refine ⟨_, (stepG_cas_hit (v := S) (n := S + 1) rfl rfl (base_kind _) rfl H.f_casU64 (x_casU64_n L) (x_casU64_b L) (x_casU64_x L) .u64 (x_casU64_f L) rfl rfl rfl hw.cellSt (hw.thaw 0)).trans (by rfl), 70, ?_⟩
      replace hF : F (w₂.setCell (stA Wg) (.int .u64 (S + 1))) ∧ WgLive L.tWg Wg (w₂.setCell (stA Wg) (.int .u64 (S + 1))) := rl hF (RC.of_wg (aside_setCell w₂ (stA Wg) _) ⟨_, _, hw.setSt _⟩)
      clear hw
      walk_nrm
      repeat
        first
          | refine g_seq T ?_
          | refine g_end T ?_
          | refine g_skip T ?_
          | refine g_block T ?_
          | refine g_loop T ?_
          | refine g_inBlock T ?_
          | refine g_ret T ?_
          | refine g_region T rfl ?_
          | refine g_true T rfl ?_
          | refine g_false T rfl ?_
          | (refine g_no T rfl rfl ?_
             walk_nrm)
          | (refine Goes.step rfl (fun _ h₁ => ?_)
             replace hF := rl hF h₁
             clear h₁
             refine goes_oper_k rfl rfl (base_kind _) (fun K hK => ?_)
             go_simp
             refine hK _ _ ⟨?_, ?_⟩
             · refine dn _ _ (fun e he => ?_)
               have hm := mem_listed he
               simp [go_sem, *] at hm
             clear hK K
             try w_num)
          | (refine Goes.step rfl (fun _ h₁ => ?_)
             replace hF := rl hF h₁
             clear h₁
             refine goes_oper_k rfl rfl (baseD_kind _) (fun K hK => ?_)
             go_simp
             refine hK _ _ ⟨?_, ?_⟩
             · refine dn _ _ (fun e he => ?_)
               have hm := mem_listed he
               simp [go_sem, *] at hm
             clear hK K
             try w_num)
      refine Goes.step rfl (fun _ h₁ => ?_)
      replace hF := rl hF h₁
      clear h₁
      refine goes_leave1 rfl rfl H.f_uCas rfl ⟨dn _ _ (fun e he => by simp at he), ?_⟩
      walk_nrm
      repeat
        first
          | refine g_seq T ?_
          | refine g_end T ?_
          | refine g_skip T ?_
          | refine g_block T ?_
          | refine g_loop T ?_
          | refine g_inBlock T ?_
          | refine g_ret T ?_
          | refine g_region T rfl ?_
          | refine g_true T rfl ?_
          | refine g_false T rfl ?_
          | (refine g_no T rfl rfl ?_
             walk_nrm)
          | (refine Goes.step rfl (fun _ h₁ => ?_)
             replace hF := rl hF h₁
             clear h₁
             refine goes_oper_k rfl rfl (base_kind _) (fun K hK => ?_)
             go_simp
             refine hK _ _ ⟨?_, ?_⟩
             · refine dn _ _ (fun e he => ?_)
               have hm := mem_listed he
               simp [go_sem, *] at hm
             clear hK K
             try w_num)
          | (refine Goes.step rfl (fun _ h₁ => ?_)
             replace hF := rl hF h₁
             clear h₁
             refine goes_oper_k rfl rfl (baseD_kind _) (fun K hK => ?_)
             go_simp
             refine hK _ _ ⟨?_, ?_⟩
             · refine dn _ _ (fun e he => ?_)
               have hm := mem_listed he
               simp [go_sem, *] at hm
             clear hK K
             try w_num)
      refine Goes.step rfl (fun _ h₁ => ?_)
      replace hF := rl hF h₁
      clear h₁
      refine goes_oper_k rfl rfl (base_kind _) (fun K hK => ?_)
      have hcv := run_convert_to_unsafe (P := P) H.underlying_tPU32 H.underlying_tUP H.room_tU32 (WgLive.cell1 hF.2).choose_spec
      have hce := fun es => events_convert_to_unsafe (P := P) H.underlying_tPU32 H.underlying_tUP H.room_tU32 (WgLive.cell1 hF.2).choose_spec es
      go_simp
      refine hK _ _ ⟨?_, ?_⟩
      · refine dn _ _ (fun e he => ?_)
        have hm := mem_listed he
        simp [go_sem, *] at hm
      clear hK K hcv hce
      try w_num
      refine Goes.step rfl (fun _ h₁ => ?_)
      replace hF := rl hF h₁
      clear h₁
      rw [stepG_markAt .write (by simp) rfl rfl (base_kind _) rfl H.f_raceWrite (x_raceWrite_n L) (x_raceWrite_b L) (x_raceWrite_x L) (x_raceWrite_f L) (ad := ⟨Wg, 1, none⟩) (by simp [Act.eval])]
      simp only [goes_go]
      refine ⟨⟨rfl, fun ex hex => ?_⟩, ?_⟩
      · rw [Array.mem_singleton] at hex
        subst hex
        exact .inl ⟨_, .inr rfl, rfl⟩
      walk_nrm
      repeat
        first
          | refine g_seq T ?_
          | refine g_end T ?_
          | refine g_skip T ?_
          | refine g_block T ?_
          | refine g_loop T ?_
          | refine g_inBlock T ?_
          | refine g_ret T ?_
          | refine g_region T rfl ?_
          | refine g_true T rfl ?_
          | refine g_false T rfl ?_
          | (refine g_no T rfl rfl ?_
             walk_nrm)
          | (refine Goes.step rfl (fun _ h₁ => ?_)
             replace hF := rl hF h₁
             clear h₁
             refine goes_oper_k rfl rfl (base_kind _) (fun K hK => ?_)
             go_simp
             refine hK _ _ ⟨?_, ?_⟩
             · refine dn _ _ (fun e he => ?_)
               have hm := mem_listed he
               simp [go_sem, *] at hm
             clear hK K
             try w_num)
          | (refine Goes.step rfl (fun _ h₁ => ?_)
             replace hF := rl hF h₁
             clear h₁
             refine goes_oper_k rfl rfl (baseD_kind _) (fun K hK => ?_)
             go_simp
             refine hK _ _ ⟨?_, ?_⟩
             · refine dn _ _ (fun e he => ?_)
               have hm := mem_listed he
               simp [go_sem, *] at hm
             clear hK K
             try w_num)
      refine Goes.stop (fun w₃ h₃ => ?_)
      replace hF := rl hF h₃
      clear h₃
      refine ⟨rfl, rfl, fun ⟨st, hw⟩ => stepG_semacquire_wait rfl rfl rfl H.f_semacquire (x_semacquire_n L) (x_semacquire_b L) (x_semacquire_x L) (x_semacquire_f L) (by simp [Act.eval, smA]) hw.cellSm, fun hf => ?_⟩
      refine ⟨_, (stepG_semacquire (n := 1) rfl rfl (base_kind _) rfl H.f_semacquire (x_semacquire_n L) (x_semacquire_b L) (x_semacquire_x L) (x_semacquire_f L) (by simp [Act.eval, smA]) hf.cellSm (by decide) (hf.thaw 1)).trans (by rfl), 30, ?_⟩
      replace hF : F (w₃.setCell (smA Wg) (.int .u32 0)) ∧ WgLive L.tWg Wg (w₃.setCell (smA Wg) (.int .u32 0)) := rl hF (RC.of_wg (aside_setCell w₃ (smA Wg) _) ⟨_, _, hf.setSm 0⟩)
      clear hf
      walk_nrm
      repeat
        first
          | refine g_seq T ?_
          | refine g_end T ?_
          | refine g_skip T ?_
          | refine g_block T ?_
          | refine g_loop T ?_
          | refine g_inBlock T ?_
          | refine g_ret T ?_
          | refine g_region T rfl ?_
          | refine g_true T rfl ?_
          | refine g_false T rfl ?_
          | (refine g_no T rfl rfl ?_
             walk_nrm)
          | (refine Goes.step rfl (fun _ h₁ => ?_)
             replace hF := rl hF h₁
             clear h₁
             refine goes_oper_k rfl rfl (base_kind _) (fun K hK => ?_)
             go_simp
             refine hK _ _ ⟨?_, ?_⟩
             · refine dn _ _ (fun e he => ?_)
               have hm := mem_listed he
               simp [go_sem, *] at hm
             clear hK K
             try w_num)
          | (refine Goes.step rfl (fun _ h₁ => ?_)
             replace hF := rl hF h₁
             clear h₁
             refine goes_oper_k rfl rfl (baseD_kind _) (fun K hK => ?_)
             go_simp
             refine hK _ _ ⟨?_, ?_⟩
             · refine dn _ _ (fun e he => ?_)
               have hm := mem_listed he
               simp [go_sem, *] at hm
             clear hK K
             try w_num)
      refine Goes.step rfl (fun _ h₁ => ?_)
      replace hF := rl hF h₁
      clear h₁
      refine goes_call rfl rfl (base_kind _) rfl H.f_uLoad (nm_uLoad L) rfl ⟨dn _ _ (fun e he => by simp at he), ?_⟩
      walk_nrmf uLoadFn
      repeat
        first
          | refine g_seq T ?_
          | refine g_end T ?_
          | refine g_skip T ?_
          | refine g_block T ?_
          | refine g_loop T ?_
          | refine g_inBlock T ?_
          | refine g_ret T ?_
          | refine g_region T rfl ?_
          | refine g_true T rfl ?_
          | refine g_false T rfl ?_
          | (refine g_no T rfl rfl ?_
             walk_nrm)
          | (refine Goes.step rfl (fun _ h₁ => ?_)
             replace hF := rl hF h₁
             clear h₁
             refine goes_oper_k rfl rfl (base_kind _) (fun K hK => ?_)
             go_simp
             refine hK _ _ ⟨?_, ?_⟩
             · refine dn _ _ (fun e he => ?_)
               have hm := mem_listed he
               simp [go_sem, *] at hm
             clear hK K
             try w_num)
          | (refine Goes.step rfl (fun _ h₁ => ?_)
             replace hF := rl hF h₁
             clear h₁
             refine goes_oper_k rfl rfl (baseD_kind _) (fun K hK => ?_)
             go_simp
             refine hK _ _ ⟨?_, ?_⟩
             · refine dn _ _ (fun e he => ?_)
               have hm := mem_listed he
               simp [go_sem, *] at hm
             clear hK K
             try w_num)
      refine Goes.stop (fun w₄ h₄ => ?_)
      replace hF := rl hF h₄
      clear h₄
      refine ⟨rfl, fun hw => ⟨_, stepG_load_atomic (v := 0) rfl rfl (base_kind _) rfl H.f_loadU64 (x_loadU64_n L) (x_loadU64_b L) (x_loadU64_x L) .u64 (x_loadU64_f L) rfl hw.cellSt, 30, ?_⟩⟩
      clear hw
      walk_nrm
      repeat
        first
          | refine g_seq T ?_
          | refine g_end T ?_
          | refine g_skip T ?_
          | refine g_block T ?_
          | refine g_loop T ?_
          | refine g_inBlock T ?_
          | refine g_ret T ?_
          | refine g_region T rfl ?_
          | refine g_true T rfl ?_
          | refine g_false T rfl ?_
          | (refine g_no T rfl rfl ?_
             walk_nrm)
          | (refine Goes.step rfl (fun _ h₁ => ?_)
             replace hF := rl hF h₁
             clear h₁
             refine goes_oper_k rfl rfl (base_kind _) (fun K hK => ?_)
             go_simp
             refine hK _ _ ⟨?_, ?_⟩
             · refine dn _ _ (fun e he => ?_)
               have hm := mem_listed he
               simp [go_sem, *] at hm
             clear hK K
             try w_num)
          | (refine Goes.step rfl (fun _ h₁ => ?_)
             replace hF := rl hF h₁
             clear h₁
             refine goes_oper_k rfl rfl (baseD_kind _) (fun K hK => ?_)
             go_simp
             refine hK _ _ ⟨?_, ?_⟩
             · refine dn _ _ (fun e he => ?_)
               have hm := mem_listed he
               simp [go_sem, *] at hm
             clear hK K
             try w_num)
      refine Goes.step rfl (fun _ h₁ => ?_)
      replace hF := rl hF h₁
      clear h₁
      refine goes_leave1 rfl rfl H.f_uLoad rfl ⟨dn _ _ (fun e he => by simp at he), ?_⟩
      walk_nrm
      repeat
        first
          | refine g_seq T ?_
          | refine g_end T ?_
          | refine g_skip T ?_
          | refine g_block T ?_
          | refine g_loop T ?_
          | refine g_inBlock T ?_
          | refine g_ret T ?_
          | refine g_region T rfl ?_
          | refine g_true T rfl ?_
          | refine g_false T rfl ?_
          | (refine g_no T rfl rfl ?_
             walk_nrm)
          | (refine Goes.step rfl (fun _ h₁ => ?_)
             replace hF := rl hF h₁
             clear h₁
             refine goes_oper_k rfl rfl (base_kind _) (fun K hK => ?_)
             go_simp
             refine hK _ _ ⟨?_, ?_⟩
             · refine dn _ _ (fun e he => ?_)
               have hm := mem_listed he
               simp [go_sem, *] at hm
             clear hK K
             try w_num)
          | (refine Goes.step rfl (fun _ h₁ => ?_)
             replace hF := rl hF h₁
             clear h₁
             refine goes_oper_k rfl rfl (baseD_kind _) (fun K hK => ?_)
             go_simp
             refine hK _ _ ⟨?_, ?_⟩
             · refine dn _ _ (fun e he => ?_)
               have hm := mem_listed he
               simp [go_sem, *] at hm
             clear hK K
             try w_num)
      refine Goes.stop (fun w₅ h₅ => ?_)
      replace hF := rl hF h₅
      clear h₅
      refine ⟨rfl, _, stepG_mark0 .enable (by simp) rfl rfl (base_kind _) rfl H.f_enable (x_enable_n L) (x_enable_b L) (x_enable_x L) (x_enable_f L), 12, ?_⟩
      walk_nrm
      refine g_end T ?_
      refine g_region T rfl ?_
      refine Goes.step rfl (fun _ h₁ => ?_)
      replace hF := rl hF h₁
      clear h₁
      refine goes_oper_k rfl (by first | rfl | (simp [*]; done)) (base_kind _) (fun K hK => ?_)
      go_simp
      refine hK _ _ ⟨?_, ?_⟩
      · refine dn _ _ (fun e he => ?_)
        have hm := mem_listed he
        simp [go_sem, *] at hm
      clear hK K
      try w_num
      refine Goes.step rfl (fun _ h₁ => ?_)
      replace hF := rl hF h₁
      clear h₁
      refine goes_oper_k rfl rfl (base_kind _) (fun K hK => ?_)
      have hcv := run_convert_to_unsafe (P := P) H.underlying_tWgP H.underlying_tUP H.room_tWg (WgLive.cell0 hF.2).choose_spec
      have hce := fun es => events_convert_to_unsafe (P := P) H.underlying_tWgP H.underlying_tUP H.room_tWg (WgLive.cell0 hF.2).choose_spec es
      go_simp
      refine hK _ _ ⟨?_, ?_⟩
      · refine dn _ _ (fun e he => ?_)
        have hm := mem_listed he
        simp [go_sem, *] at hm
      clear hK K hcv hce
      try w_num
      refine Goes.stop (fun w₆ h₆ => ?_)
      replace hF := rl hF h₆
      clear h₆
      refine ⟨rfl, _, stepG_markAt .acquire (by simp) rfl rfl (base_kind _) rfl H.f_acquire (x_acquire_n L) (x_acquire_b L) (x_acquire_x L) (x_acquire_f L) (by simp [Act.eval, stA]), tail hF fun w₃ hF => ⟨30, ?_⟩⟩
      clear rl dn T
      have rl := @rq
      have dn := dq
      have T := Tq
      clear rq dq Tq tail
      walk_nrm
      repeat
        first
          | refine g_seq T ?_
          | refine g_end T ?_
          | refine g_skip T ?_
          | refine g_block T ?_
          | refine g_loop T ?_
          | refine g_inBlock T ?_
          | refine g_ret T ?_
          | refine g_region T rfl ?_
          | refine g_true T rfl ?_
          | refine g_false T rfl ?_
          | (refine g_no T rfl rfl ?_
             walk_nrm)
          | (refine Goes.step rfl (fun _ h₁ => ?_)
             replace hF := rl hF h₁
             clear h₁
             refine goes_oper_k rfl rfl (base_kind _) (fun K hK => ?_)
             go_simp
             refine hK _ _ ⟨?_, ?_⟩
             · refine dn _ _ (fun e he => ?_)
               have hm := mem_listed he
               simp [go_sem, *] at hm
             clear hK K
             try w_num)
          | (refine Goes.step rfl (fun _ h₁ => ?_)
             replace hF := rl hF h₁
             clear h₁
             refine goes_oper_k rfl rfl (baseD_kind _) (fun K hK => ?_)
             go_simp
             refine hK _ _ ⟨?_, ?_⟩
             · refine dn _ _ (fun e he => ?_)
               have hm := mem_listed he
               simp [go_sem, *] at hm
             clear hK K
             try w_num)
      refine Goes.step rfl (fun _ h₁ => ?_)
      replace hF := rl hF h₁
      clear h₁
      refine goes_leave0 rfl rfl H.f_wait rfl ⟨dn _ _ (fun e he => by simp at he), ?_⟩
      walk_nrm
      exact Goes.stop fun w₄ h₄ => ⟨rfl, rl hF h₄⟩
    · -- it misses
      refine ⟨_, stepG_cas_miss (v := (v' : Int) * KK) (old := S) (n := S + 1) rfl rfl (base_kind _) rfl H.f_casU64 (x_casU64_n L) (x_casU64_b L) (x_casU64_x L) .u64 (x_casU64_f L) rfl rfl rfl hw.cellSt (hw.thaw 0) (by rw [← hS]; simp only [KK]; omega), 20, ?_⟩
      clear hw
      walk_nrm
      repeat
        first
          | refine g_seq T ?_
          | refine g_end T ?_
          | refine g_skip T ?_
          | refine g_block T ?_
          | refine g_loop T ?_
          | refine g_inBlock T ?_
          | refine g_ret T ?_
          | refine g_region T rfl ?_
          | refine g_true T rfl ?_
          | refine g_false T rfl ?_
          | (refine g_no T rfl rfl ?_
             walk_nrm)
          | (refine Goes.step rfl (fun _ h₁ => ?_)
             replace hF := rl hF h₁
             clear h₁
             refine goes_oper_k rfl rfl (base_kind _) (fun K hK => ?_)
             go_simp
             refine hK _ _ ⟨?_, ?_⟩
             · refine dn _ _ (fun e he => ?_)
               have hm := mem_listed he
               simp [go_sem, *] at hm
             clear hK K
             try w_num)
          | (refine Goes.step rfl (fun _ h₁ => ?_)
             replace hF := rl hF h₁
             clear h₁
             refine goes_oper_k rfl rfl (baseD_kind _) (fun K hK => ?_)
             go_simp
             refine hK _ _ ⟨?_, ?_⟩
             · refine dn _ _ (fun e he => ?_)
               have hm := mem_listed he
               simp [go_sem, *] at hm
             clear hK K
             try w_num)
      refine Goes.step rfl (fun _ h₁ => ?_)
      replace hF := rl hF h₁
      clear h₁
      refine goes_leave1 rfl rfl H.f_uCas rfl ⟨dn _ _ (fun e he => by simp at he), ?_⟩
      walk_nrm
      refine g_end T ?_
      refine g_false T rfl ?_
      refine g_skip T ?_
      refine g_inBlock T ?_
      refine g_inLoop T ?_
      refine Goes.stop (fun w₃ h₃ => ?_)
      replace hF := rl hF h₃
      exact ⟨_, rfl, by simp, by simp, hF⟩
end
end Go.Ph
