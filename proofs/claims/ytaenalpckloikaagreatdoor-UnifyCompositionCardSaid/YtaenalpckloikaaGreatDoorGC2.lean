/- Texts laid together: UnnG. Their own heads stand before each. -/
import Derived.Test.YtaenalpckloikaaGreatDoorGC1
import Derived.Test.YtaenalpckloikaaGreatDoorGA12
import Derived.Test.YtaenalpckloikaaGreatDoorGB2
import Derived.Deep.RegionLaw
/- The walks of UnifyComposes and UnifyComposition, awake's contract as a premise. No other conditions. -/
namespace Go.Proofs.YtaenalpckloikaaGreatDoor
open Go Go.RowKit
namespace UnnG
open LexM TermM TermI Kit TermN TermS TermU UniK UniM UniA UniB UniC UniD UniE UniG UniH UniJ UniO UniP UniR UniT UniV UniW UniY UnjA UnmE UnnB UnnC UnnD UnnE UnnF UnuA UnuG
theorem small_sz {s : List Bd} (h : SmS s) : Sz s := ⟨by have := h.1; omega, fun y hy => by have := size_of (h.2 y hy); omega⟩
theorem bvar_size {s t : List Bd} (hs : vldS s = true) (ht : vldS t = true) : ∀ v ∈ bvars s t, varB v = true := by
  intro v hv
  rw [bvars_mem] at hv
  unfold names at hv
  obtain ⟨x, hx, rfl⟩ := List.mem_map.1 hv
  rcases List.mem_append.1 hx with h | h
  · exact (vld_all hs x h).1
  · exact (vld_all ht x h).1
theorem var_le {v : ByteArray} (h : varB v = true) : v.size ≤ maxLen := by
  have := UnmF.var_ok h
  unfold maxLen
  omega
/-- What the composition makes of a variable. -/
theorem comp_asF {s t : List Bd} (v : ByteArray) (hv : varB v = true) (hs : ∀ b ∈ s, varB b.1 = true) (ht : ∀ b ∈ t, varB b.1 = true) : asF (codeC s t (bvars s t)) v = subT (asF t) (asF s v) := by
  have e0 : img s t v = subT (asF t) (asF s v) := by
    unfold img
    rw [app_sub ht, app_sub hs, sub_var _ hv]
  have hS := code_srt s t (bvars s t) (bvars_srt s t)
  rw [← e0]
  unfold asF
  cases hl : lookS (codeC s t (bvars s t)) v with
  | some u =>
    have := (code_mem s t (bvars s t) _).1 (UniY.look_mem hl)
    exact this.2.2
  | none =>
    by_cases hm : v ∈ bvars s t
    · cases hk : keepsV s t v
      · unfold keepsV at hk
        have : cmpT (img s t v) (.mk v []) = 0 := by simpa using hk
        rw [(cmp_zero _ _).1 this]
        rfl
      · have := (code_mem s t (bvars s t) (v, img s t v)).2 ⟨hm, hk, rfl⟩
        rw [look_of hS this] at hl
        cases hl
    · rw [bvars_mem] at hm
      unfold names at hm
      have hn : ∀ r : List Bd, (∀ x ∈ r, x ∈ s ++ t) → lookS r v = none := fun r hr => UnuE.look_none.2 fun x hx e => hm (List.mem_map.2 ⟨x, hr x hx, e⟩)
      rw [e0]
      unfold asF
      rw [hn s fun x hx => List.mem_append_left _ hx]
      simp only [Option.getD_none]
      rw [sub_var _ hv, hn t fun x hx => List.mem_append_right _ hx]
      rfl
theorem comp_app {s t : List Bd} (hs : vldS s = true) (ht : vldS t = true) (x : Tm) : appT (codeC s t (bvars s t)) x = appT t (appT s x) := by
  have h1 : ∀ b ∈ s, varB b.1 = true := fun b hb => (vld_all hs b hb).1
  have h2 : ∀ b ∈ t, varB b.1 = true := fun b hb => (vld_all ht b hb).1
  have h3 : ∀ b ∈ codeC s t (bvars s t), varB b.1 = true := fun b hb => bvar_size hs ht b.1 ((code_mem s t _ b).1 hb).1
  rw [app_sub h3, app_sub h2, app_sub h1, sub_comp]
  exact sub_congr x fun v _ hv => comp_asF v hv h1 h2
theorem size_sub {σ : Sb} {M : Nat} (hM : 1 ≤ M) (hσ : ∀ v, sizeT (σ v) ≤ M) (t : Tm) : sizeT (subT σ t) ≤ M * sizeT t := by
  induction t using Tm.ind with
  | h n l ih =>
    cases hv : isV (.mk n l)
    · rw [sub_fun _ n l hv]
      have key : ∀ l : List Tm, (∀ x ∈ l, sizeT (subT σ x) ≤ M * sizeT x) → sizeL (l.map (subT σ)) ≤ M * sizeL l := by
        intro l
        induction l with
        | nil => intro _; simp [sizeL]
        | cons a r ihr =>
          intro h
          have h1 := h a (by simp)
          have h2 := ihr fun x hx => h x (by simp [hx])
          simp only [List.map_cons, sizeL, Nat.mul_add]
          omega
      have := key l ih
      simp only [sizeT, Nat.mul_add]
      omega
    · obtain ⟨rfl, hn⟩ := isv_nil hv
      rw [sub_var _ hn]
      have := hσ n
      simp only [sizeT, sizeL]
      omega
theorem size_app {s : List Bd} (h : SmS s) (hV : ∀ b ∈ s, varB b.1 = true) (t : Tm) : sizeT (appT s t) ≤ 100 * sizeT t := by
  rw [app_sub hV]
  refine size_sub (by decide) (fun v => ?_) t
  unfold asF
  cases hl : lookS s v with
  | none => simp [sizeT, sizeL]
  | some u => exact size_of (h.2 _ (UniY.look_mem hl))
set_option maxRecDepth 100000 in
set_option maxHeartbeats 3200000 in
theorem composes (s t : List Bd) (w : World) (sv tv : Value) (hs : SIn (· < w.heap.size) w s sv) (ht : SIn (· < w.heap.size) w t tv) (hp : 0 < w.heap.size) (AW : Aw w) :
    Calls Tryz.prog 7 #[sv, tv] w fun e w' => e = .returned (.bool true) ∧ Below w.heap.size w w' := by
  have CF := Lib.hid (few_any s w.heap.size w sv (Nat.le_refl _) hs)
  have CG := Lib.hid (fun w' (k : Below w.heap.size w w') => few_any t w.heap.size w' tv k.size (ht.deep k (Nat.le_refl _)))
  have C1 := Lib.hid (fun w' (k : Below w.heap.size w w') => rvalid_any s w.heap.size w' sv k.size (hs.deep k (Nat.le_refl _)))
  have C2 := Lib.hid (fun w' (k : Below w.heap.size w w') => rvalid_any t w.heap.size w' tv k.size (ht.deep k (Nat.le_refl _)))
  have CM := Lib.hid (fun (h1 : SmS s) (h2 : SmS t) (h3 : vldS s = true) (h4 : vldS t = true) w' (k : Below w.heap.size w w') => ccomp_any s t (vld_srt h3).1 (vld_srt h4).1 (small_sz h1) (small_sz h2) (by have := h1.1; omega) (by have := h2.1; omega) (fun v hv => var_le (bvar_size h3 h4 v hv)) w.heap.size w' sv tv k.size (Nat.lt_of_lt_of_le hp k.size) (hs.deep k (Nat.le_refl _)) (ht.deep k (Nat.le_refl _)))
  have CR := Lib.hid (fun (h1 : SmS s) (h2 : SmS t) (h3 : vldS s = true) (h4 : vldS t = true) w' (k : Below w.heap.size w w') => rcomp_any s t (fun b hb => (vld_all h3 b hb).1) (fun b hb => (vld_all h4 b hb).1) (small_sz h1).2 (by have := h1.1; omega) (by have := h2.1; omega) w.heap.size w' sv tv k.size (hs.deep k (Nat.le_refl _)) (ht.deep k (Nat.le_refl _)))
  have EQ : codeC s t (bvars s t) = compF s t (s ++ t).length := by
    have := comp_eq s t
    unfold names at this
    rw [List.length_map] at this
    exact this
  rw [← EQ] at CR
  have AW' := Lib.hid AW
  clear hs ht AW EQ hp
  obtain ⟨vb, hvb⟩ : ∃ b, vldS s = b := ⟨_, rfl⟩
  obtain ⟨vc, hvc⟩ : ∃ b, vldS t = b := ⟨_, rfl⟩
  rw [hvb] at C1
  rw [hvc] at C2
  have HVB := Lib.hid hvb
  have HVC := Lib.hid hvc
  clear hvb hvc
  generalize codeC s t (bvars s t) = c9 at *
  unfold FewS at CF CG
  unfold InsR at CM CR
  unfold Aw at AW'
  go_enter Tryz.func7, Tryz.ntmps7
  go_wp2_with fail
  refine CF.out.mono ?_
  rintro e w3 ⟨b, rfl, hsm, g3⟩
  have D3 := Lib.hid g3.1
  have SM := Lib.hid hsm
  clear g3 hsm CF
  cases b
  · clear C1 C2 CG CM CR
    go_wp2_with fail
    refine (AW'.out _ D3.out).mono ?_
    rintro e w4 ⟨rfl, k4⟩
    have D4 := Lib.hid (next0 D3.out k4)
    go_wp2_with fail
    go_ret
    exact ⟨rfl, D4.out⟩
  have SMs := Lib.hid (SM.out rfl)
  clear SM
  go_wp2_with fail
  refine (CG.out _ D3.out).mono ?_
  rintro e w4 ⟨b, rfl, hsm, g4⟩
  have D4 := Lib.hid (next0 D3.out g4.1)
  have SM := Lib.hid hsm
  clear g4 hsm CG
  cases b
  · clear C1 C2 CM CR
    go_wp2_with fail
    refine (AW'.out _ D4.out).mono ?_
    rintro e w5 ⟨rfl, k5⟩
    have D5 := Lib.hid (next0 D4.out k5)
    go_wp2_with fail
    go_ret
    exact ⟨rfl, D5.out⟩
  have SMt := Lib.hid (SM.out rfl)
  clear SM
  go_wp2_with fail
  refine (C1.out _ D4.out).mono ?_
  rintro e w5 ⟨rfl, g5⟩
  have D5 := Lib.hid (next0 D4.out g5.1)
  clear g5 C1
  cases vb
  · clear C2 CM CR
    go_wp2_with fail
    refine (AW'.out _ D5.out).mono ?_
    rintro e w6 ⟨rfl, k6⟩
    have D6 := Lib.hid (next0 D5.out k6)
    go_wp2_with fail
    go_ret
    exact ⟨rfl, D6.out⟩
  go_wp2_with fail
  refine (C2.out _ D5.out).mono ?_
  rintro e w6 ⟨rfl, g6⟩
  have D6 := Lib.hid (next0 D5.out g6.1)
  clear g6 C2
  cases vc
  · clear CM CR
    go_wp2_with fail
    refine (AW'.out _ D6.out).mono ?_
    rintro e w7 ⟨rfl, k7⟩
    have D7 := Lib.hid (next0 D6.out k7)
    go_wp2_with fail
    go_ret
    exact ⟨rfl, D7.out⟩
  have CM6 := Lib.hid (CM.out SMs.out SMt.out HVB.out HVC.out _ D6.out)
  have CR6 := Lib.hid (CR.out SMs.out SMt.out HVB.out HVC.out)
  clear CM CR
  go_wp2_with fail
  refine CM6.out.mono ?_
  rintro e w7 ⟨v7, rfl, hS7, k7⟩
  have D7 := Lib.hid (next0 D6.out k7)
  have S7 := Lib.hid hS7
  clear hS7 k7 CM6
  go_wp2_with fail
  refine (CR6.out _ D7.out).mono ?_
  rintro e w8 ⟨v8, rfl, hS8, k8⟩
  have D8 := Lib.hid (next0 D7.out k8)
  have S8 := Lib.hid hS8
  have S7' := Lib.hid ((S7.out.deep k8 (Nat.le_refl _)).wide (ok' := (· < w8.heap.size)) fun b hb => Nat.lt_of_lt_of_le hb k8.size)
  have SA := Lib.hid (same_any c9 c9 true (by simp) w8.heap.size w8 v7 v8 (Nat.le_refl _) S7'.out S8.out)
  clear hS8 k8 CR6 S7 S7' S8
  go_wp2_with fail
  refine SA.out.mono ?_
  rintro e w9 ⟨rfl, g9⟩
  have D9 := Lib.hid (next0 D8.out g9.1)
  clear g9 SA
  go_wp2_with fail
  refine (AW'.out _ D9.out).mono ?_
  rintro e w10 ⟨rfl, k10⟩
  have D10 := Lib.hid (next0 D9.out k10)
  go_wp2_with fail
  go_ret
  exact ⟨rfl, D10.out⟩
set_option maxRecDepth 100000 in
set_option maxHeartbeats 3200000 in
theorem composition (s t : List Bd) (x : Tm) (w : World) (sv tv xv : Value) (hs : SIn (· < w.heap.size) w s sv) (ht : SIn (· < w.heap.size) w t tv) (hx : SlIn (· < w.heap.size) w x.args xv) (hxn : x.nm.size ≤ maxLen) (hp : 0 < w.heap.size) (AW : Aw w) :
    Calls Tryz.prog 11 #[sv, tv, .agg #[.string x.nm, xv]] w fun e w' => e = .returned (.bool true) ∧ Below w.heap.size w w' := by
  obtain ⟨p1, c1, rfl⟩ := hx.form
  obtain ⟨W2, hW2⟩ : ∃ W2, W2 = w.alloc (.cells #[.string x.nm, .slice p1 x.args.length c1] 27) := ⟨_, rfl⟩
  have J2 : Hid (Below w.heap.size w W2) := Lib.hid (by rw [hW2]; exact below_alloc _ _)
  have H2 : Hid (Has W2 w.heap.size #[.string x.nm, .slice p1 x.args.length c1]) := Lib.hid (by rw [hW2]; exact Has.new _ _ _)
  have CF := Lib.hid (fun w' (k : Below w.heap.size w w') => few_any s w.heap.size w' sv k.size (hs.deep k (Nat.le_refl _)))
  have CG := Lib.hid (fun w' (k : Below w.heap.size w w') => few_any t w.heap.size w' tv k.size (ht.deep k (Nat.le_refl _)))
  have CX := Lib.hid (fun w' (k : Below w.heap.size w w') => Sm40.small_any x w.heap.size w' _ k.size (hx.deep k (Nat.le_refl _)))
  have C1 := Lib.hid (fun w' (k : Below w.heap.size w w') => rvalid_any s w.heap.size w' sv k.size (hs.deep k (Nat.le_refl _)))
  have C2 := Lib.hid (fun w' (k : Below w.heap.size w w') => rvalid_any t w.heap.size w' tv k.size (ht.deep k (Nat.le_refl _)))
  have CM := Lib.hid (fun (h1 : SmS s) (h2 : SmS t) (h3 : vldS s = true) (h4 : vldS t = true) w' (k : Below w.heap.size w w') => ccomp_any s t (vld_srt h3).1 (vld_srt h4).1 (small_sz h1) (small_sz h2) (by have := h1.1; omega) (by have := h2.1; omega) (fun v hv => var_le (bvar_size h3 h4 v hv)) w.heap.size w' sv tv k.size (Nat.lt_of_lt_of_le hp k.size) (hs.deep k (Nat.le_refl _)) (ht.deep k (Nat.le_refl _)))
  have AU := Lib.hid (fun (h3 : vldS s = true) (h4 : vldS t = true) (hz : partsT 40 40 x ≤ 40) w' (k : Below w.heap.size w w') q (hq : SIn (· < w'.heap.size) w' (codeC s t (bvars s t)) q) => rapply_any (codeC s t (bvars s t)) (fun b hb => bvar_size h3 h4 b.1 ((code_mem s t _ b).1 hb).1) x w'.heap.size w' q _ (Nat.le_refl _) hq ((hx.deep k (Nat.le_refl _)).weaken fun b hb => Nat.lt_of_lt_of_le hb k.size) hxn (by have := (parts_size 40 40 x hz).1; omega))
  have AS := Lib.hid (fun (h3 : vldS s = true) (hz : partsT 40 40 x ≤ 40) w' (k : Below w.heap.size w w') => rapply_any s (fun b hb => (vld_all h3 b hb).1) x w'.heap.size w' sv _ (Nat.le_refl _) ((hs.deep k (Nat.le_refl _)).wide fun b hb => Nat.lt_of_lt_of_le hb k.size) ((hx.deep k (Nat.le_refl _)).weaken fun b hb => Nat.lt_of_lt_of_le hb k.size) hxn (by have := (parts_size 40 40 x hz).1; omega))
  have AT := Lib.hid (fun (h1 : SmS s) (h3 : vldS s = true) (h4 : vldS t = true) (hz : partsT 40 40 x ≤ 40) w' (k : Below w.heap.size w w') q (hq : SlIn (· < w'.heap.size) w' (appT s x).args q) (hn : (appT s x).nm.size ≤ maxLen) => rapply_any t (fun b hb => (vld_all h4 b hb).1) (appT s x) w'.heap.size w' tv q (Nat.le_refl _) ((ht.deep k (Nat.le_refl _)).wide fun b hb => Nat.lt_of_lt_of_le hb k.size) hq hn (by have h5 := (parts_size 40 40 x hz).1; have h6 := size_app h1 (fun b hb => (vld_all h3 b hb).1) x; omega))
  have EQ := Lib.hid (fun (h3 : vldS s = true) (h4 : vldS t = true) => comp_app h3 h4 x)
  have CT := Lib.hid (fun (u : Tm) (q q' : Value) w' (h : SlIn (· < w'.heap.size) w' u.args q) (h' : SlIn (· < w'.heap.size) w' u.args q') => TermEq.term_any u true w'.heap.size w' q u q' (by simp) (Nat.le_refl _) h h')
  have AW' := Lib.hid AW
  clear hs ht hx hxn AW hp
  obtain ⟨vb, hvb⟩ : ∃ b, vldS s = b := ⟨_, rfl⟩
  obtain ⟨vc, hvc⟩ : ∃ b, vldS t = b := ⟨_, rfl⟩
  obtain ⟨vx, hvx⟩ : ∃ b, decide (partsT 40 40 x ≤ 40) = b := ⟨_, rfl⟩
  rw [hvb] at C1
  rw [hvc] at C2
  rw [hvx] at CX
  have HVB := Lib.hid hvb
  have HVC := Lib.hid hvc
  have HVX := Lib.hid hvx
  clear hvb hvc hvx
  generalize codeC s t (bvars s t) = c9 at *
  unfold FewS at CF CG
  unfold InsR at CM
  unfold Aw at AW'
  unfold RApR at AU AS AT
  have HH := Lib.hid (fun w' (k : Below W2.heap.size W2 w') => (H2.out.step0 k).two)
  clear H2
  generalize x.nm = xn at *
  generalize x.args.length = xl at *
  go_enter Tryz.func11, Tryz.ntmps11
  obtain ⟨y1, y2, y3, y4, y5⟩ := HH.out W2 (Below.refl _ _)
  go_upto_region 1 with fail
  rw [← hW2]
  clear hW2
  go_wp2_with fail
  refine (CF.out _ J2.out).mono ?_
  rintro e w3 ⟨b, rfl, hsm, g3⟩
  have K3 := Lib.hid g3.1
  have D3 := Lib.hid (next0 J2.out g3.1)
  have SM := Lib.hid hsm
  clear g3 hsm CF y1 y2 y3 y4 y5
  cases b
  · clear C1 C2 CG CM CX AU AS AT
    go_wp2_with fail
    refine (AW'.out _ D3.out).mono ?_
    rintro e w4 ⟨rfl, k4⟩
    have D4 := Lib.hid (next0 D3.out k4)
    go_wp2_with fail
    go_ret
    exact ⟨rfl, D4.out⟩
  have SMs := Lib.hid (SM.out rfl)
  clear SM
  go_wp2_with fail
  refine (CG.out _ D3.out).mono ?_
  rintro e w4 ⟨b, rfl, hsm, g4⟩
  have K4 := Lib.hid (next0 K3.out g4.1)
  have D4 := Lib.hid (next0 D3.out g4.1)
  have SM := Lib.hid hsm
  clear g4 hsm CG
  cases b
  · clear C1 C2 CM CX AU AS AT
    go_wp2_with fail
    refine (AW'.out _ D4.out).mono ?_
    rintro e w5 ⟨rfl, k5⟩
    have D5 := Lib.hid (next0 D4.out k5)
    go_wp2_with fail
    go_ret
    exact ⟨rfl, D5.out⟩
  have SMt := Lib.hid (SM.out rfl)
  clear SM
  obtain ⟨y1, y2, y3, y4, y5⟩ := HH.out w4 K4.out
  go_wp2_with fail
  refine (CX.out _ D4.out).mono ?_
  rintro e w5 ⟨rfl, g5⟩
  have K5 := Lib.hid (next0 K4.out g5.1)
  have D5 := Lib.hid (next0 D4.out g5.1)
  clear g5 CX y1 y2 y3 y4 y5
  cases vx
  · clear C1 C2 CM AU AS AT
    go_wp2_with fail
    refine (AW'.out _ D5.out).mono ?_
    rintro e w6 ⟨rfl, k6⟩
    have D6 := Lib.hid (next0 D5.out k6)
    go_wp2_with fail
    go_ret
    exact ⟨rfl, D6.out⟩
  have HZ : Hid (partsT 40 40 x ≤ 40) := Lib.hid (by have := HVX.out; rw [decide_eq_true_eq] at this; exact this)
  clear HVX
  go_wp2_with fail
  refine (C1.out _ D5.out).mono ?_
  rintro e w6 ⟨rfl, g6⟩
  have K6 := Lib.hid (next0 K5.out g6.1)
  have D6 := Lib.hid (next0 D5.out g6.1)
  clear g6 C1
  cases vb
  · clear C2 CM AU AS AT
    go_wp2_with fail
    refine (AW'.out _ D6.out).mono ?_
    rintro e w7 ⟨rfl, k7⟩
    have D7 := Lib.hid (next0 D6.out k7)
    go_wp2_with fail
    go_ret
    exact ⟨rfl, D7.out⟩
  go_wp2_with fail
  refine (C2.out _ D6.out).mono ?_
  rintro e w7 ⟨rfl, g7⟩
  have K7 := Lib.hid (next0 K6.out g7.1)
  have D7 := Lib.hid (next0 D6.out g7.1)
  clear g7 C2
  cases vc
  · clear CM AU AS AT
    go_wp2_with fail
    refine (AW'.out _ D7.out).mono ?_
    rintro e w8 ⟨rfl, k8⟩
    have D8 := Lib.hid (next0 D7.out k8)
    go_wp2_with fail
    go_ret
    exact ⟨rfl, D8.out⟩
  have CM7 := Lib.hid (CM.out SMs.out SMt.out HVB.out HVC.out _ D7.out)
  have AU7 := Lib.hid (AU.out HVB.out HVC.out HZ.out)
  have AS7 := Lib.hid (AS.out HVB.out HZ.out)
  have AT7 := Lib.hid (AT.out SMs.out HVB.out HVC.out HZ.out)
  have EQ7 := Lib.hid (EQ.out HVB.out HVC.out)
  clear CM AU AS AT EQ
  rw [EQ7.out] at AU7
  clear EQ7
  generalize appT s x = u1 at *
  generalize appT t u1 = u2 at *
  go_wp2_with fail
  refine CM7.out.mono ?_
  rintro e w8 ⟨v8, rfl, hS8, k8⟩
  have K8 := Lib.hid (next0 K7.out k8)
  have D8 := Lib.hid (next0 D7.out k8)
  have S8 := Lib.hid hS8
  clear hS8 k8 CM7
  have BU := Lib.hid (fun w' (k : Below w8.heap.size w8 w') => AU7.out w' (next0 D8.out k) v8 ((S8.out.deep k (Nat.le_refl _)).wide fun b hb => Nat.lt_of_lt_of_le hb k.size))
  have BS := Lib.hid (fun w' (k : Below w8.heap.size w8 w') => AS7.out w' (next0 D8.out k))
  have BT := Lib.hid (fun q w' (k : Below w8.heap.size w8 w') hq hn => AT7.out w' (next0 D8.out k) q hq hn)
  have BA := Lib.hid (fun w' (k : Below w8.heap.size w8 w') => AW'.out w' (next0 D8.out k))
  have HH8 := Lib.hid (fun w' (k : Below w8.heap.size w8 w') => HH.out w' (next0 K8.out k))
  clear AU7 AS7 AT7 AW' HH S8
  generalize hu1 : u1.nm = un1 at *
  generalize hl1 : u1.args.length = ul1 at *
  generalize hu2 : u2.nm = un2 at *
  generalize hl2 : u2.args.length = ul2 at *
  have CT2 := Lib.hid (fun (q q' : Value) w' h h' => CT.out u2 q q' w' h h')
  rw [hu2] at CT2
  clear CT hu1 hl1 hu2 hl2
  obtain ⟨y1, y2, y3, y4, y5⟩ := HH8.out w8 (Below.refl _ _)
  go_wp2_with fail
  go_region_law (first
    | (go_simp; go_at_call 21; (with_reducible refine (BU.out _ (by first | exact Below.refl _ _ | exact (Below.refl _ _).drew | exact below_drewN (Below.refl _ _) _)).mono ?_); rintro e wb ⟨qb, db, rfl, hSb, hnb, kb⟩; have DA : Hid (Below w8.heap.size w8 wb) := Lib.hid (by first | exact kb | exact next0 (Below.refl _ _).drew kb | exact next0 (below_drewN (Below.refl _ _) _) kb); have SB := Lib.hid (fun w' (k : Below wb.heap.size wb w') => ((hSb.weaken (ok' := (· < wb.heap.size)) fun b hb => by have h1 := kb.size; have h2 := hb; first | omega | (rcases h2 with h2 | h2; exact Nat.lt_of_lt_of_le h2 h1; exact h2.2)).deep k (Nat.le_refl _)).weaken (ok' := (· < w'.heap.size)) fun b hb => Nat.lt_of_lt_of_le hb k.size); clear hSb hnb kb y1 y2 y3 y4 y5; obtain ⟨y1, y2, y3, y4, y5⟩ := HH8.out _ DA.out)
    | (go_simp; go_at_call 21; (with_reducible refine (BS.out _ (next0 DA.out (by first | exact Below.refl _ _ | exact (Below.refl _ _).drew | exact below_drewN (Below.refl _ _) _))).mono ?_); rintro e wc ⟨qc, dc, rfl, hSc, hnc, kc⟩; have DB : Hid (Below wb.heap.size wb wc) := Lib.hid (by first | exact kc | exact next0 (Below.refl _ _).drew kc | exact next0 (below_drewN (Below.refl _ _) _) kc); have SC := Lib.hid (hSc.weaken (ok' := (· < wc.heap.size)) fun b hb => by have h1 := kc.size; have h2 := hb; first | omega | (rcases h2 with h2 | h2; exact Nat.lt_of_lt_of_le h2 h1; exact h2.2)); have NC := Lib.hid hnc; clear hSc hnc kc y1 y2 y3 y4 y5; obtain ⟨y1, y2, y3, y4, y5⟩ := HH8.out _ (next0 DA.out DB.out))
    | (go_simp; go_at_call 21; (with_reducible refine (BT.out _ _ (next0 (next0 DA.out DB.out) (by first | exact Below.refl _ _ | exact (Below.refl _ _).drew | exact below_drewN (Below.refl _ _) _)) (by first | exact SC.out | exact SC.out.frame fun _ _ _ => rfl) NC.out).mono ?_); rintro e wd ⟨qd, dd, rfl, hSd, hnd, kd⟩; have DC : Hid (Below wb.heap.size wb wd) := Lib.hid (next0 DB.out (by first | exact kd | exact next0 (Below.refl _ _).drew kd | exact next0 (below_drewN (Below.refl _ _) _) kd)); have SD := Lib.hid (hSd.weaken (ok' := (· < wd.heap.size)) fun b hb => by have h1 := kd.size; have h2 := hb; first | omega | (rcases h2 with h2 | h2; exact Nat.lt_of_lt_of_le h2 h1; exact h2.2)); clear hSd hnd kd)
    | (go_simp; go_at_call 18; (with_reducible refine (CT2.out _ _ _ (by first | exact SB.out _ DC.out | exact (SB.out _ DC.out).frame fun _ _ _ => rfl) (by first | exact SD.out | exact SD.out.frame fun _ _ _ => rfl)).mono ?_); rintro e we ⟨rfl, ge⟩; have DD : Hid (Below w8.heap.size w8 we) := Lib.hid (next0 (next0 DA.out DC.out) (by first | exact ge.1 | exact next0 (Below.refl _ _).drew ge.1 | exact next0 (below_drewN (Below.refl _ _) _) ge.1)); clear ge)
    | (go_simp; go_at_call 13; (with_reducible refine (BA.out _ (by first | exact DD.out | exact DD.out.drew | exact below_drewN DD.out _)).mono ?_); rintro e wf ⟨rfl, kf⟩; have DE : Hid (Below w8.heap.size w8 wf) := Lib.hid (by first | exact next0 DD.out kf | exact next0 DD.out.drew kf | exact next0 (below_drewN DD.out _) kf); clear kf))
  all_goals
    go_wp2_with fail
    go_ret
    exact ⟨rfl, next0 D8.out DE.out⟩
end UnnG
end Go.Proofs.YtaenalpckloikaaGreatDoor
