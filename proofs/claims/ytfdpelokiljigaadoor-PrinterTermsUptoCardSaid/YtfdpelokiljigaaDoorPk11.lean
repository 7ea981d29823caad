/- Texts laid together: ParH; ParI; ParW; ParV; ParN. Their own heads stand before each. -/
import Derived.Test.YtfdpelokiljigaaDoorPk10
import Derived.Defers
import Derived.Recover
/- The reader's description and terms. No conditions but a reader in memory (terms: at most twenty thousand tokens). -/
namespace Go.Proofs.YtfdpelokiljigaaDoor
open Go Go.RowKit
namespace ParH
open Kit LexM TermM TermI TermU LexP ParM ParA ParB ParC ParD ParK ParE ParF ParG
/-- What the method that reads a description leaves. -/
def DsR (r : Nat) (w : World) (o : Out (List Rl)) (e : Ending) (w' : World) : Prop :=
  (∃ l ts p c, o = .good l ts ∧ e = .returned (.slice p l.length c) ∧ RIn (fun b => w.heap.size ≤ b ∧ b < w'.heap.size) w' l (.slice p l.length c) ∧ Rd w' r ts ∧ Ch r w w') ∨
  (∃ a er, o = .bad a er ∧ e = .panicked (PE a er) ∧ Ch r w w')
theorem ruleF_bad {ts : List GTok} (h : atomB (hd ts) = false) : ruleF ts = .bad (hd ts).2.2 1 := by
  unfold ruleF atomF
  rw [h]
  rfl
set_option maxRecDepth 100000 in
set_option maxHeartbeats 6400000 in
theorem desc_any (r : Nat) (w : World) (ts : List GTok) (h : Rd w r ts) :
    Calls Tryd.prog 41 #[.pointer (some ⟨r, 0, none⟩)] w (DsR r w (descF 129 [] ts)) := by
  obtain ⟨i0, hi, hz0, hz1, hz2⟩ := info_parts Tryd.infoR
  have F0 := fld0
  have hr := h.lt
  have HI := Lib.hid (fun w' tk (k : Rd w' r tk) => rule_any r w' tk k)
  have HO : Hid (descF 129 [] ts = descF 129 [] ts) := Lib.hid rfl
  generalize hOO : descF 129 [] ts = O at *
  have HO1 : Hid (O = descF (128 + 1) [] ts) := Lib.hid hOO.symm
  have R0 := Lib.hid h
  unfold RlR at HI
  unfold DsR
  clear h HO hOO
  go_enter Tryd.func41, Tryd.ntmps41
  go_wp2_with fail
  go_loopw [3] (fun v wx => ∃ (M : List (Rl × Value × Value)) (n : Nat) (tk : List GTok), M.length + n = 128 ∧ Hid (O = descF (n + 1) (M.map (·.1)) tk) ∧ Hid (OwnG KR w.heap.size wx M v) ∧ Hid (Rd wx r tk) ∧ Hid (Ch r w wx)) (fun v _ => 129 - lenOf v)
  case atStart => exact ⟨[], 128, ts, rfl, HO1, Lib.hid (OwnG.nil _ _), R0, Lib.hid (Ch.refl _ _)⟩
  case round =>
    clear R0 HO1
    obtain ⟨M, n, tk, hMn, HO, OW, RD, CC⟩ := hrel
    obtain ⟨va, vc, hv⟩ := OW.out.form
    subst hv
    have HML : Hid ((M.map (·.1)).length = M.length) := Lib.hid (by simp)
    have HN := Lib.hid (next_any wr r tk RD.out)
    by_cases hk0 : (hd tk).1 = 0
    · have hkb : ((hd tk).1 != 0) = false := by simp [hk0]
      have HO3 : Hid (O = .good (M.map (·.1)) tk) := Lib.hid (by rw [HO.out]; simp only [descF, hk0, if_true])
      generalize hd tk = t at *
      clear hk0 HO
      go_wp2_with fail
      refine HN.out.mono ?_
      rintro e w3 ⟨rfl, k⟩
      have RD3 := Lib.hid (RD.out.below k)
      have S3 : Hid (RowG KR (fun b => w.heap.size ≤ b ∧ b < w3.heap.size) w3 M (.slice va M.length vc)) := Lib.hid (OW.out.ch (Ch.of (r := r) k) hr).row
      have C4 := Lib.hid (CC.out.below k)
      clear k HN
      go_wp2_with fail
      go_ret
      exact Or.inl ⟨_, _, va, vc, HO3.out, ret_sl HML.out.symm, ⟨M, rfl, by rw [HML.out]; exact S3.out⟩, RD3.out, C4.out⟩
    · have hkb : ((hd tk).1 != 0) = true := by simpa using hk0
      have HO2 : Hid (O = if (decide (M.length = 128) && atomB (hd tk)) = true then .bad (hd tk).2.2 2 else (ruleF tk).then fun x r => descF n ((M.map (·.1)) ++ [x]) r) := Lib.hid (by rw [HO.out]; simp only [descF, hk0, if_false, List.length_map])
      have HBT0 := Lib.hid (fun w' (k : Rd w' r tk) => batom_any w' r tk k)
      have HFY0 := Lib.hid (fun w' (k : Rd w' r tk) => fail_yes w' r 2 tk k)
      have HFN := Lib.hid (fun w' => fail_no w' r 2)
      have HRB := Lib.hid (fun (h : atomB (hd tk) = false) => ruleF_bad h)
      have HI1 := Lib.hid (fun w' (k : Rd w' r tk) => HI.out w' tk k)
      generalize hd tk = t at *
      generalize ruleF tk = O3 at *
      clear hk0 HO HI
      go_wp2_with fail
      refine HN.out.mono ?_
      rintro e w3 ⟨rfl, k⟩
      have RD3 := Lib.hid (RD.out.below k)
      have OW3 := Lib.hid (OW.out.ch (Ch.of (r := r) k) hr)
      have C4 := Lib.hid (CC.out.below k)
      clear k HN RD OW CC
      by_cases h4 : M.length = 128
      · have hn0 : n = 0 := by omega
        subst hn0
        have d4 : ((M.length : Int) == 128) = true := by simp; omega
        have HBT := Lib.hid (HBT0.out w3 RD3.out)
        clear HBT0
        cases hbg : atomB t with
        | true =>
          have HO4 : Hid (O = .bad t.2.2 2) := Lib.hid (by rw [HO2.out, hbg, decide_eq_true h4]; rfl)
          rw [hbg] at HBT
          have HFY := Lib.hid (fun w' (k : Below w3.heap.size w3 w') => HFY0.out w' (RD3.out.below k))
          clear hbg HO2 HFY0
          go_wp2_with fail
          refine HBT.out.mono ?_
          rintro e w4 ⟨rfl, k⟩
          have HF2 := Lib.hid (HFY.out w4 k)
          have C5 := Lib.hid (C4.out.below k)
          clear k
          go_wp2_with fail
          refine HF2.out.mono ?_
          rintro e w5 ⟨rfl, k⟩
          have C6 := Lib.hid (C5.out.below k)
          clear k
          go_wp2_with fail
          exact ⟨rfl, Or.inr ⟨_, _, HO4.out, rfl, C6.out⟩⟩
        | false =>
          have hba := HRB.out hbg
          have HO4 : Hid (O = .bad t.2.2 1) := Lib.hid (by rw [HO2.out, hbg, hba]; simp [Out.then])
          have HBA := Lib.hid hba
          rw [hbg] at HBT
          have HI2 := Lib.hid (fun w' (k : Below w3.heap.size w3 w') => HI1.out w' (RD3.out.below k))
          clear hbg HO2 hba HI1 HFY0
          go_wp2_with fail
          refine HBT.out.mono ?_
          rintro e w4 ⟨rfl, k⟩
          have HI3 := Lib.hid (HI2.out w4 k)
          have C5 := Lib.hid (C4.out.below k)
          clear k HI2
          go_wp2_with fail
          refine (HFN.out _).mono ?_
          rintro e w5 ⟨rfl, rfl⟩
          go_wp2_with fail
          refine HI3.out.mono ?_
          rintro e w6 (⟨x', ts', p', c', q', d', hO', rfl, hs', hR', hC'⟩ | ⟨a', er', hO', rfl, hC'⟩)
          · rw [HBA.out] at hO'
            cases hO'
          · have C6 := Lib.hid (C5.out.trans hC')
            rw [HBA.out] at hO'
            injection hO' with e1 e2
            subst e1 e2
            clear hC' HI3
            go_wp2_with fail
            exact ⟨rfl, Or.inr ⟨_, _, HO4.out, rfl, C6.out⟩⟩
      · have d4 : ((M.length : Int) == 128) = false := by simp; omega
        have HO4 : Hid (O = O3.then fun x r => descF n ((M.map (·.1)) ++ [x]) r) := Lib.hid (by rw [HO2.out, decide_eq_false h4]; rfl)
        have HI2 := Lib.hid (HI1.out w3 RD3.out)
        have hv := Lib.hid OW3.out.1.lt
        have hb3 := C4.out.size
        clear HO2 HI1 HBT0 HFY0 HRB
        obtain ⟨n', hn'⟩ : ∃ n', n = n' + 1 := ⟨n - 1, by omega⟩
        subst hn'
        go_wp2_with fail
        refine (HFN.out _).mono ?_
        rintro e w5 ⟨rfl, rfl⟩
        go_wp2_with fail
        refine HI2.out.mono ?_
        rintro e w6 (⟨x', ts', p', c', q', d', hO', rfl, hs', hR', hC'⟩ | ⟨a', er', hO', rfl, hC'⟩)
        case inr =>
          have C6 := Lib.hid (C4.out.trans hC')
          have HO5 : Hid (O = .bad a' er') := Lib.hid (HO4.out.trans (then_bad hO'))
          clear hC' HI2 hO'
          go_wp2_with fail
          exact ⟨rfl, Or.inr ⟨_, _, HO5.out, rfl, C6.out⟩⟩
        case inl =>
          have C6 := Lib.hid (C4.out.trans hC')
          have O6 := Lib.hid (OW3.out.ch hC' hr)
          have R6 := Lib.hid hR'
          have S6 := Lib.hid hs'
          have HO5 : Hid (O = descF (n' + 1) (List.map (fun x : Rl × Value × Value => x.1) (M ++ [(x', Value.slice p' x'.1.args.length c', Value.slice q' x'.2.length d')])) ts') := Lib.hid (by rw [HO4.out, then_good hO', List.map_append]; rfl)
          have A1 : M.length + 1 ≤ maxLen := by unfold maxLen; omega
          have A2 : (M.length + 1) * 64 ≤ 140737488355328 := by omega
          have hs6 := hC'.size
          have A4 : w.heap.size ≤ (w6.alloc (.cells #[.string x'.1.nm, .slice p' x'.1.args.length c', .slice q' x'.2.length d'] 27)).heap.size := by rw [World.size_alloc]; omega
          clear hC' HI2 hO' hR' hs'
          go_wp2_with (at_builtin; refine wpList_append_lies _ rfl _ _ 37 rfl w.heap.size 27 i0 (.agg #[.string ⟨#[]⟩, .slice none 0 0, .slice none 0 0]) 3 64 Tryd.underlying37 hi hz0 hz1 hz2 rfl (by decide) (.slice va M.length vc) M.length (KR.flat M) rfl (O6.out.1.alloc _) ⟨w6.heap.size, 0, none⟩ 1 1 [.string x'.1.nm, .slice p' x'.1.args.length c', .slice q' x'.2.length d'] rfl rfl (newsK _ _ _ _ _) (one_R _ _ _ _ _ _ _) (by decide) A1 A2 A4 (w6.heap.size + 1) (by simp) ?_; intro g5 cap5 w7 hown hgrow hat hlt5)
          have O7 := Lib.hid (O6.out.add S6.out hb3 (fun k hk => (hv.out k hk).2) hown hgrow hat)
          have C7 := Lib.hid ((C6.out.alloc _).grown hgrow (fun k hk => (hv.out k hk).1))
          have R7 : Hid (Rd w7 r ts') := Lib.hid ((R6.out.alloc _).grown hgrow (fun k hk => by have := (hv.out k hk).1; omega))
          clear hown hgrow hat
          go_wp2_with fail
          go_roundw
          case rel => exact ⟨M ++ [(x', .slice p' x'.1.args.length c', .slice q' x'.2.length d')], n', ts', by simp; omega, HO5, O7, R7, C7⟩
          case measure => simp [lenOf]; omega
end ParH
end Go.Proofs.YtfdpelokiljigaaDoor
/- The reader's terms. Condition: at most twenty thousand tokens. -/
namespace Go.Proofs.YtfdpelokiljigaaDoor
open Go Go.RowKit
namespace ParI
open Kit LexM TermM TermI TermU LexP ParM ParA ParB ParC ParD ParK ParE ParF ParG ParH
theorem beg_len {ts : List GTok} (h : begB (hd ts) = true) : 1 ≤ ts.length := by
  cases ts with
  | nil => simp [hd, begB] at h
  | cons a r => simp
theorem is_len {ts : List GTok} {s : ByteArray} (h : isB (hd ts) s = true) (hs : s ≠ ⟨#[]⟩) : 1 ≤ ts.length := by
  cases ts with
  | nil => exact absurd rfl (isB_ne h hs)
  | cons a r => simp
theorem more_len (f : List GTok → Out Tm) (hf : ∀ ts t r, f ts = .good t r → r.length + 1 ≤ ts.length) : ∀ (n : Nat) (l : List Tm) (ts : List GTok) (l' : List Tm) (r : List GTok), moreF f n l ts = .good l' r → r.length ≤ ts.length
  | 0, l, ts, l', r, h => by simp [moreF] at h
  | n + 1, l, ts, l', r, h => by
    simp only [moreF] at h
    split at h
    · split at h
      · cases h
      · cases hO : f ts.tail with
        | bad a e => rw [then_bad hO] at h; cases h
        | good t r2 =>
          rw [then_good hO] at h
          have h1 := hf _ _ _ hO
          have h2 := more_len f hf n _ _ _ _ h
          rw [List.length_tail] at h1
          omega
    · split at h
      · injection h with _ h
        rw [← h, List.length_tail]
        omega
      · cases h
theorem args_len (f : List GTok → Out Tm) (hf : ∀ ts t r, f ts = .good t r → r.length + 1 ≤ ts.length) (ts : List GTok) (l : List Tm) (r : List GTok) (h : argsF f ts = .good l r) : r.length ≤ ts.length := by
  unfold argsF at h
  split at h
  · cases hO : f ts.tail with
    | bad a e => rw [then_bad hO] at h; cases h
    | good t r2 =>
      rw [then_good hO] at h
      have h1 := hf _ _ _ hO
      have h2 := more_len f hf _ _ _ _ _ h
      rw [List.length_tail] at h1
      omega
  · injection h with _ h
    rw [h]
    exact Nat.le_refl _
theorem term_len : ∀ (d : Nat) (ts : List GTok) (t : Tm) (r : List GTok), termF d ts = .good t r → r.length + 1 ≤ ts.length
  | 0, ts, t, r, h => by
    simp only [termF] at h
    split at h <;> cases h
  | d + 1, ts, t, r, h => by
    simp only [termF] at h
    split at h
    · cases h
    · rename_i hb
      have hl := beg_len (by simpa using hb)
      split at h
      · cases hO : argsF (termF d) ts.tail with
        | bad a e => rw [then_bad hO] at h; cases h
        | good l r2 =>
          rw [then_good hO] at h
          injection h with _ h
          subst h
          have h1 := args_len _ (term_len d) _ _ _ hO
          rw [List.length_tail] at h1
          omega
      · injection h with _ h
        rw [← h, List.length_tail]
        omega
end ParI
end Go.Proofs.YtfdpelokiljigaaDoor
/- whole's deferred closures: a violation is caught and told; without a panic nothing happens. No conditions. -/
namespace Go.Proofs.YtfdpelokiljigaaDoor
open Go Go.RowKit
namespace ParW
open Kit LexM TermM TermI TermU LexP ParM ParA ParB ParC ParD ParK ParE ParF ParG ParH ParI
/-- Of what was there only two blocks may have turned. -/
def Ch2 (g h : Nat) (a b : World) : Prop := b.os = a.os ∧ b.tape = a.tape ∧ b.output = a.output ∧ a.heap.size ≤ b.heap.size ∧ ∀ i, i < a.heap.size → i ≠ g → i ≠ h → b.heap[i]? = a.heap[i]?
theorem Ch2.below {g h : Nat} {a b : World} (k : Below a.heap.size a b) : Ch2 g h a b := ⟨k.os, k.tape, k.output, k.size, fun i hi _ _ => k.block i hi⟩
theorem Ch2.put {g h : Nat} {a b : World} (k : Ch2 g h a b) {p : Addr} (hp : p.block = g ∨ p.block = h ∨ a.heap.size ≤ p.block) (u : Value) : Ch2 g h a (b.setCell p u) := by
  obtain ⟨k1, k2, k3, k4, k5⟩ := k
  refine ⟨k1, k2, k3, Nat.le_trans k4 (by simp [World.setCell]), fun i hi h1 h2 => (Below.heap_setCell _ _ _ _ (fun e => ?_)).trans (k5 i hi h1 h2)⟩
  rcases hp with hp | hp | hp
  · exact h1 (by rw [e, hp])
  · exact h2 (by rw [e, hp])
  · omega
set_option maxRecDepth 100000 in
set_option maxHeartbeats 1600000 in
theorem catch_ds (ga ge : Nat) (a0 e0 : Value) (a er : Int) (w : World) (hne : ga ≠ ge) (ha : Has w ga #[a0]) (he : Has w ge #[e0]) :
    CallsD Tryd.prog 59 #[.pointer (some ⟨ga, 0, none⟩), .pointer (some ⟨ge, 0, none⟩)] (.panicking (PE a er)) w fun e u' w' =>
      e = .returned (.tuple #[]) ∧ u' = .panicking [{ v := .iface 81 (.agg #[.int .i64 a, .int .i64 er]), recovered := true }] ∧ Has w' ga #[.int .i64 a] ∧ Has w' ge #[.int .i64 er] ∧ Ch2 ga ge w w' := by
  have x1 := ha.cell 0
  have x2 := ha.free 0
  have y1 := he.cell 0
  have y2 := he.free 0
  have z1 := ha.lt
  have z2 := he.lt
  refine callsD_of_wpS Tryd.func59 rfl fun c₀ cs hu => ?_
  have e : ((#[.pointer (some ⟨ga, 0, none⟩), .pointer (some ⟨ge, 0, none⟩)] : Array Value) ++ Array.replicate (Tryd.f59.ntmps - (#[.pointer (some ⟨ga, 0, none⟩), .pointer (some ⟨ge, 0, none⟩)] : Array Value).size) undef) = #[.pointer (some ⟨ga, 0, none⟩), .pointer (some ⟨ge, 0, none⟩), undef, undef, undef, undef, undef, undef, undef, undef, undef, undef, undef, undef] := by kernel_rfl
  rw [e]
  clear e
  apply wpS_seq
  apply wpS_region
  generalize hQ : Exit.thenS _ _ = Q
  have hrec : recoverD (c₀ :: cs) = some (.iface 81 (.agg #[.int .i64 a, .int .i64 er]), { c₀ with mode := .panicking [{ v := .iface 81 (.agg #[.int .i64 a, .int .i64 er]), recovered := true }] } :: cs) := by
    simp [recoverD, hu]
  generalize c₀ :: cs = CS at *
  have TA : ∀ W, (Instr.typeAssert (.iface 81 (.agg #[.int .i64 a, .int .i64 er])) 20 81 true).run Tryd.prog W = .ok (.tuple #[.agg #[.int .i64 a, .int .i64 er], .bool true]) W := fun W => by kernel_rfl
  simp [wpOpsS, go_sem, hrec, TA]
  rw [← hQ]
  simp only [Exit.thenS]
  clear hQ hrec TA
  apply wpS_seq
  apply wpS_region
  generalize hQ : Exit.thenS _ _ = Q
  simp [wpOpsS, go_sem]
  rw [← hQ]
  simp only [Exit.thenS]
  refine wpS_cond (t := true) (by simp [Act.eval]) ?_
  simp only [if_true]
  refine wpS_of_wp ?_
  simp only [List.getElem?_toArray, List.getElem?_cons_zero] at x1 y1
  have HA := Lib.hid ha
  have HE := Lib.hid he
  clear ha he
  go_region
  have D0 : Ch2 ga ge w (((w.setCell ⟨ga, 0, none⟩ (.int .i64 a)).setCell ⟨ge, 0, none⟩ (.int .i64 er)).alloc (.cells #[.int .i64 a, .int .i64 er] 81)).drew := by
    have k := ((Ch2.below (g := ga) (h := ge) (Below.refl _ w)).put (p := ⟨ga, 0, none⟩) (Or.inl rfl) (.int .i64 a)).put (p := ⟨ge, 0, none⟩) (Or.inr (Or.inl rfl)) (.int .i64 er)
    have k2 := below_alloc ((w.setCell ⟨ga, 0, none⟩ (.int .i64 a)).setCell ⟨ge, 0, none⟩ (.int .i64 er)) (.cells #[.int .i64 a, .int .i64 er] 81)
    exact ⟨k2.os.trans k.1, k2.tape.trans k.2.1, k2.output.trans k.2.2.1, Nat.le_trans k.2.2.2.1 k2.size, fun i hi h1 h2 => (k2.block i (Nat.lt_of_lt_of_le hi k.2.2.2.1)).trans (k.2.2.2.2 i hi h1 h2)⟩
  refine ⟨rfl, _, rfl, .tuple #[], by simp [results, Tryd.results59, go_sem], rfl, rfl, ?_, ?_, D0⟩
  · exact (((HA.out.set 0 _).far (by exact hne) _).alloc _).drew
  · exact (((HE.out.far (by exact Ne.symm hne) _).set 0 _).alloc _).drew
set_option maxRecDepth 100000 in
set_option maxHeartbeats 1600000 in
theorem idle_ds (ga ge : Nat) (w : World) :
    CallsD Tryd.prog 59 #[.pointer (some ⟨ga, 0, none⟩), .pointer (some ⟨ge, 0, none⟩)] .returning w fun e u' w' =>
      e = .returned (.tuple #[]) ∧ u' = .returning ∧ Below w.heap.size w w' := by
  refine callsD_of_wpS Tryd.func59 rfl fun c₀ cs hu => ?_
  have e : ((#[.pointer (some ⟨ga, 0, none⟩), .pointer (some ⟨ge, 0, none⟩)] : Array Value) ++ Array.replicate (Tryd.f59.ntmps - (#[.pointer (some ⟨ga, 0, none⟩), .pointer (some ⟨ge, 0, none⟩)] : Array Value).size) undef) = #[.pointer (some ⟨ga, 0, none⟩), .pointer (some ⟨ge, 0, none⟩), undef, undef, undef, undef, undef, undef, undef, undef, undef, undef, undef, undef] := by kernel_rfl
  rw [e]
  clear e
  apply wpS_seq
  apply wpS_region
  generalize hQ : Exit.thenS _ _ = Q
  have hrec : recoverD (c₀ :: cs) = none := by
    simp [recoverD, hu]
  have TA : ∀ W, (Instr.typeAssert .nilIface 20 81 true).run Tryd.prog W = .ok (.tuple #[.agg #[.int .i64 0, .int .i64 0], .bool false]) W := fun W => by kernel_rfl
  have hcs : c₀ :: cs = { c₀ with mode := .returning } :: cs := by rw [← hu]
  generalize c₀ :: cs = CS at *
  simp [wpOpsS, go_sem, hrec, TA]
  rw [← hQ]
  simp only [Exit.thenS]
  clear hQ hrec TA
  apply wpS_seq
  apply wpS_region
  generalize hQ : Exit.thenS _ _ = Q
  simp [wpOpsS, go_sem]
  rw [← hQ]
  simp only [Exit.thenS]
  refine wpS_cond (t := false) (by simp [Act.eval]) ?_
  simp only [Bool.false_eq_true, if_false]
  refine wpS_of_wp (wp_skip ?_)
  refine ⟨rfl, _, hcs, .tuple #[], by simp [results, Tryd.results59, go_sem], rfl, rfl, ?_⟩
  exact below_alloc w _
set_option maxRecDepth 100000 in
set_option maxHeartbeats 1600000 in
theorem catch_rl (ga ge : Nat) (a0 e0 : Value) (a er : Int) (w : World) (hne : ga ≠ ge) (ha : Has w ga #[a0]) (he : Has w ge #[e0]) :
    CallsD Tryd.prog 63 #[.pointer (some ⟨ga, 0, none⟩), .pointer (some ⟨ge, 0, none⟩)] (.panicking (PE a er)) w fun e u' w' =>
      e = .returned (.tuple #[]) ∧ u' = .panicking [{ v := .iface 81 (.agg #[.int .i64 a, .int .i64 er]), recovered := true }] ∧ Has w' ga #[.int .i64 a] ∧ Has w' ge #[.int .i64 er] ∧ Ch2 ga ge w w' := by
  have x1 := ha.cell 0
  have x2 := ha.free 0
  have y1 := he.cell 0
  have y2 := he.free 0
  have z1 := ha.lt
  have z2 := he.lt
  refine callsD_of_wpS Tryd.func63 rfl fun c₀ cs hu => ?_
  have e : ((#[.pointer (some ⟨ga, 0, none⟩), .pointer (some ⟨ge, 0, none⟩)] : Array Value) ++ Array.replicate (Tryd.f63.ntmps - (#[.pointer (some ⟨ga, 0, none⟩), .pointer (some ⟨ge, 0, none⟩)] : Array Value).size) undef) = #[.pointer (some ⟨ga, 0, none⟩), .pointer (some ⟨ge, 0, none⟩), undef, undef, undef, undef, undef, undef, undef, undef, undef, undef, undef, undef] := by kernel_rfl
  rw [e]
  clear e
  apply wpS_seq
  apply wpS_region
  generalize hQ : Exit.thenS _ _ = Q
  have hrec : recoverD (c₀ :: cs) = some (.iface 81 (.agg #[.int .i64 a, .int .i64 er]), { c₀ with mode := .panicking [{ v := .iface 81 (.agg #[.int .i64 a, .int .i64 er]), recovered := true }] } :: cs) := by
    simp [recoverD, hu]
  generalize c₀ :: cs = CS at *
  have TA : ∀ W, (Instr.typeAssert (.iface 81 (.agg #[.int .i64 a, .int .i64 er])) 20 81 true).run Tryd.prog W = .ok (.tuple #[.agg #[.int .i64 a, .int .i64 er], .bool true]) W := fun W => by kernel_rfl
  simp [wpOpsS, go_sem, hrec, TA]
  rw [← hQ]
  simp only [Exit.thenS]
  clear hQ hrec TA
  apply wpS_seq
  apply wpS_region
  generalize hQ : Exit.thenS _ _ = Q
  simp [wpOpsS, go_sem]
  rw [← hQ]
  simp only [Exit.thenS]
  refine wpS_cond (t := true) (by simp [Act.eval]) ?_
  simp only [if_true]
  refine wpS_of_wp ?_
  simp only [List.getElem?_toArray, List.getElem?_cons_zero] at x1 y1
  have HA := Lib.hid ha
  have HE := Lib.hid he
  clear ha he
  go_region
  have D0 : Ch2 ga ge w (((w.setCell ⟨ga, 0, none⟩ (.int .i64 a)).setCell ⟨ge, 0, none⟩ (.int .i64 er)).alloc (.cells #[.int .i64 a, .int .i64 er] 81)).drew := by
    have k := ((Ch2.below (g := ga) (h := ge) (Below.refl _ w)).put (p := ⟨ga, 0, none⟩) (Or.inl rfl) (.int .i64 a)).put (p := ⟨ge, 0, none⟩) (Or.inr (Or.inl rfl)) (.int .i64 er)
    have k2 := below_alloc ((w.setCell ⟨ga, 0, none⟩ (.int .i64 a)).setCell ⟨ge, 0, none⟩ (.int .i64 er)) (.cells #[.int .i64 a, .int .i64 er] 81)
    exact ⟨k2.os.trans k.1, k2.tape.trans k.2.1, k2.output.trans k.2.2.1, Nat.le_trans k.2.2.2.1 k2.size, fun i hi h1 h2 => (k2.block i (Nat.lt_of_lt_of_le hi k.2.2.2.1)).trans (k.2.2.2.2 i hi h1 h2)⟩
  refine ⟨rfl, _, rfl, .tuple #[], by simp [results, Tryd.results63, go_sem], rfl, rfl, ?_, ?_, D0⟩
  · exact (((HA.out.set 0 _).far (by exact hne) _).alloc _).drew
  · exact (((HE.out.far (by exact Ne.symm hne) _).set 0 _).alloc _).drew
set_option maxRecDepth 100000 in
set_option maxHeartbeats 1600000 in
theorem idle_rl (ga ge : Nat) (w : World) :
    CallsD Tryd.prog 63 #[.pointer (some ⟨ga, 0, none⟩), .pointer (some ⟨ge, 0, none⟩)] .returning w fun e u' w' =>
      e = .returned (.tuple #[]) ∧ u' = .returning ∧ Below w.heap.size w w' := by
  refine callsD_of_wpS Tryd.func63 rfl fun c₀ cs hu => ?_
  have e : ((#[.pointer (some ⟨ga, 0, none⟩), .pointer (some ⟨ge, 0, none⟩)] : Array Value) ++ Array.replicate (Tryd.f63.ntmps - (#[.pointer (some ⟨ga, 0, none⟩), .pointer (some ⟨ge, 0, none⟩)] : Array Value).size) undef) = #[.pointer (some ⟨ga, 0, none⟩), .pointer (some ⟨ge, 0, none⟩), undef, undef, undef, undef, undef, undef, undef, undef, undef, undef, undef, undef] := by kernel_rfl
  rw [e]
  clear e
  apply wpS_seq
  apply wpS_region
  generalize hQ : Exit.thenS _ _ = Q
  have hrec : recoverD (c₀ :: cs) = none := by
    simp [recoverD, hu]
  have TA : ∀ W, (Instr.typeAssert .nilIface 20 81 true).run Tryd.prog W = .ok (.tuple #[.agg #[.int .i64 0, .int .i64 0], .bool false]) W := fun W => by kernel_rfl
  have hcs : c₀ :: cs = { c₀ with mode := .returning } :: cs := by rw [← hu]
  generalize c₀ :: cs = CS at *
  simp [wpOpsS, go_sem, hrec, TA]
  rw [← hQ]
  simp only [Exit.thenS]
  clear hQ hrec TA
  apply wpS_seq
  apply wpS_region
  generalize hQ : Exit.thenS _ _ = Q
  simp [wpOpsS, go_sem]
  rw [← hQ]
  simp only [Exit.thenS]
  refine wpS_cond (t := false) (by simp [Act.eval]) ?_
  simp only [Bool.false_eq_true, if_false]
  refine wpS_of_wp (wp_skip ?_)
  refine ⟨rfl, _, hcs, .tuple #[], by simp [results, Tryd.results63, go_sem], rfl, rfl, ?_⟩
  exact below_alloc w _
end ParW
end Go.Proofs.YtfdpelokiljigaaDoor
/- What Parse, Rule, Term and Terms answer, as plain functions of the text; the tokens of a text end with the one of kind 0. No conditions. -/
namespace Go.Proofs.YtfdpelokiljigaaDoor
open Go Go.RowKit
namespace ParV
open Kit LexM TermM LexE LexF LexG LexP ParM
/-- The whole text, by its tokens. -/
def wholeF {α : Type} (f : List GTok → Out α) (l : List UInt8) : Out α :=
  if (lexR l).2.2 = 0 then (f ((lexR l).1.map gt)).then fun x r => if (hd r).1 = 0 then .good x [] else .bad (hd r).2.2 1 else .bad (lexR l).2.1 (lexR l).2.2
theorem cat_zero {t : List Tok} {r : Res} (h : (cat t r).2.2 = 0) : r.2.2 = 0 ∧ (cat t r).1 = t ++ r.1 := by
  unfold cat at h ⊢
  split at h
  · rename_i h2; rw [if_pos h2]; exact ⟨h2, rfl⟩
  · rename_i h2; exact absurd h h2
theorem lex_end : ∀ (f k : Nat) (l : List UInt8), (lexF f k l).2.2 = 0 → (∃ (xs : List Tok) (n : Nat), (lexF f k l).1 = xs ++ [(0, [], n)]) ∧ ∀ t ∈ (lexF f k l).1, t.2.1.length ≤ l.length
  | 0, k, [], _ => ⟨⟨[], k, rfl⟩, fun t ht => by simp [lexF] at ht; subst ht; simp⟩
  | _ + 1, k, [], _ => ⟨⟨[], k, rfl⟩, fun t ht => by simp [lexF] at ht; subst ht; simp⟩
  | 0, k, b :: l, h => by simp [lexF] at h
  | f + 1, k, b :: l, h => by
    rw [lexF] at h ⊢
    split at h
    · rename_i h0
      rw [if_pos h0]
      obtain ⟨h1, h2⟩ := cat_zero h
      obtain ⟨⟨xs, n, e⟩, h4⟩ := lex_end f _ _ h1
      rw [h2]
      refine ⟨⟨LexG.tok (pieceF (b :: l)) (b :: l) k ++ xs, n, by rw [e, List.append_assoc]⟩, fun t ht => ?_⟩
      rcases List.mem_append.1 ht with ht | ht
      · unfold LexG.tok at ht
        split at ht
        · simp at ht
        · obtain rfl := List.mem_singleton.1 ht
          rw [List.length_take]
          omega
      · have := h4 t ht
        rw [List.length_drop] at this
        omega
    · rename_i h0
      exact absurd h h0
theorem lexR_end {l : List UInt8} (h : (lexR l).2.2 = 0) : Wf ((lexR l).1.map gt) ∧ (∀ t ∈ (lexR l).1.map gt, t.2.1.size ≤ maxLen) ∧ ((lexR l).1.map gt).length ≤ 20000 := by
  have hc := lexR_count l
  have hl : l.length ≤ 16384 ∧ lexR l = lexF l.length 0 l := by
    unfold lexR at h ⊢
    split at h
    · simp at h
    · rename_i h2; rw [if_neg h2]; exact ⟨by omega, rfl⟩
  rw [hl.2] at h
  obtain ⟨⟨xs, n, e⟩, h2⟩ := lex_end _ _ _ h
  refine ⟨⟨xs.map gt, n, by rw [hl.2, e, List.map_append]; rfl⟩, fun t ht => ?_, by rw [List.length_map]; omega⟩
  obtain ⟨u, hu, rfl⟩ := List.mem_map.1 ht
  rw [hl.2] at hu
  have := h2 u hu
  show (bs u.2.1).size ≤ maxLen
  unfold bs maxLen
  simp only [ByteArray.size, List.size_toArray]
  omega
end ParV
end Go.Proofs.YtfdpelokiljigaaDoor
/- The plain parser: an error is 1 to 5; a rule and a description of one rule. No conditions. -/
namespace Go.Proofs.YtfdpelokiljigaaDoor
open Go Go.RowKit
namespace ParN
open Kit LexM TermM LexE LexF LexG LexP ParM ParV
/-- An error lies between 1 and 5. -/
def Nz {α : Type} (o : Out α) : Prop := ∀ a e, o = .bad a e → 1 ≤ e ∧ e ≤ 5
theorem Nz.good {α : Type} (x : α) (r : List GTok) : Nz (.good x r) := fun a e h => by cases h
theorem Nz.bad {α : Type} (a e : Int) (h : 1 ≤ e ∧ e ≤ 5) : Nz (.bad a e : Out α) := fun a' e' hh => by cases hh; exact h
theorem Nz.then {α β : Type} {o : Out α} {f : α → List GTok → Out β} (h : Nz o) (k : ∀ x r, o = .good x r → Nz (f x r)) : Nz (o.then f) := by
  cases o with
  | good x r => exact k x r rfl
  | bad a e => exact fun a' e' hh => by cases hh; exact h a e rfl
theorem nz_more (f : List GTok → Out Tm) (hf : ∀ ts, Nz (f ts)) (hb : ∀ ts, begB (hd ts) = false → ∃ a e, f ts = .bad a e) :
    ∀ (n : Nat) (l : List Tm) (ts : List GTok), l.length + n = 5 → 1 ≤ n → Nz (moreF f n l ts)
  | 0, _, _, _, h => absurd h (by omega)
  | n + 1, l, ts, hl, _ => by
    rw [moreF]
    split
    · split
      · exact Nz.bad _ _ (by decide)
      · rename_i hc
        refine (hf _).then fun t r hg => ?_
        by_cases hn : n = 0
        · have h4 : l.length = 4 := by omega
          have hbg : begB (hd ts.tail) = false := by
            cases h : begB (hd ts.tail) with
            | false => rfl
            | true => exact absurd (by simp [h4, h]) hc
          obtain ⟨a, e, he⟩ := hb _ hbg
          rw [he] at hg
          cases hg
        · exact nz_more f hf hb n _ r (by simp; omega) (by omega)
    · split
      · exact Nz.good _ _
      · exact Nz.bad _ _ (by decide)
theorem term_bad (d : Nat) (ts : List GTok) (h : begB (hd ts) = false) : ∃ a e, termF d ts = .bad a e := by
  cases d <;> (rw [termF, if_pos h]; exact ⟨_, _, rfl⟩)
theorem nz_term : ∀ (d : Nat) (ts : List GTok), Nz (termF d ts)
  | 0, ts => by
    rw [termF]
    split <;> exact Nz.bad _ _ (by decide)
  | d + 1, ts => by
    rw [termF]
    split
    · exact Nz.bad _ _ (by decide)
    · split
      · refine Nz.then ?_ fun _ _ _ => Nz.good _ _
        unfold argsF
        split
        · exact (nz_term d _).then fun t r _ => nz_more _ (nz_term d) (term_bad d) 4 [t] r rfl (by decide)
        · exact Nz.good _ _
      · exact Nz.good _ _
theorem nz_atom (ts : List GTok) : Nz (atomF ts) := by
  unfold atomF
  split
  · exact nz_term 4 ts
  · exact Nz.bad _ _ (by decide)
theorem nz_lit (ts : List GTok) : Nz (litF ts) := by
  unfold litF
  split <;> exact (nz_atom _).then fun _ _ _ => Nz.good _ _
theorem atom_bad {ts : List GTok} (h : atomB (hd ts) = false) : ∃ a e, atomF ts = .bad a e := by
  unfold atomF
  rw [if_neg (by rw [h]; decide)]
  exact ⟨_, _, rfl⟩
theorem nz_lits : ∀ (n : Nat) (l : List Lt) (ts : List GTok), l.length + n = 9 → 1 ≤ n → Nz (litsF n l ts)
  | 0, _, _, _, h => absurd h (by omega)
  | n + 1, l, ts, hl, _ => by
    rw [litsF]
    split
    · split
      · exact Nz.bad _ _ (by decide)
      · rename_i hc
        refine (nz_lit _).then fun t r hg => ?_
        by_cases hn : n = 0
        · have h8 : l.length = 8 := by omega
          have hb : (atomB (hd ts.tail) || isB (hd ts.tail) sNot) = false := by
            cases h : (atomB (hd ts.tail) || isB (hd ts.tail) sNot) with
            | false => rfl
            | true => exact absurd (by simp only [h8, h]; decide) hc
          obtain ⟨h1, h2⟩ := Bool.or_eq_false_iff.1 hb
          obtain ⟨a, e, he⟩ := atom_bad h1
          unfold litF at hg
          rw [if_neg (by rw [h2]; decide), he] at hg
          cases hg
        · exact nz_lits n _ r (by simp; omega) (by omega)
    · exact Nz.good _ _
theorem nz_exp (s : ByteArray) (ts : List GTok) : Nz (expF s ts) := by
  unfold expF
  split
  · exact Nz.good _ _
  · exact Nz.bad _ _ (by decide)
theorem nz_rule (ts : List GTok) : Nz (ruleF ts) := by
  unfold ruleF
  refine (nz_atom _).then fun h r _ => ?_
  split
  · refine Nz.then ?_ fun b r2 _ => (nz_exp _ _).then fun _ _ _ => Nz.good _ _
    unfold bodyF
    exact (nz_lit _).then fun x r _ => nz_lits 8 [x] r rfl (by decide)
  · exact (nz_exp _ _).then fun _ _ _ => Nz.good _ _
theorem rule_bad {ts : List GTok} (h : atomB (hd ts) = false) : ∃ a e, ruleF ts = .bad a e := by
  obtain ⟨a, e, he⟩ := atom_bad h
  unfold ruleF
  rw [he]
  exact ⟨_, _, rfl⟩
theorem nz_desc : ∀ (n : Nat) (l : List Rl) (ts : List GTok), l.length + n = 129 → 1 ≤ n → Nz (descF n l ts)
  | 0, _, _, _, h => absurd h (by omega)
  | n + 1, l, ts, hl, _ => by
    rw [descF]
    split
    · exact Nz.good _ _
    · split
      · exact Nz.bad _ _ (by decide)
      · rename_i hc
        refine (nz_rule _).then fun t r hg => ?_
        by_cases hn : n = 0
        · have h8 : l.length = 128 := by omega
          have hb : atomB (hd ts) = false := by
            cases h : atomB (hd ts) with
            | false => rfl
            | true => exact absurd (by simp [h8, h]) hc
          obtain ⟨a, e, he⟩ := rule_bad hb
          rw [he] at hg
          cases hg
        · exact nz_desc n _ r (by simp; omega) (by omega)
theorem piece_err (l : List UInt8) : 0 ≤ (pieceF l).2.2 ∧ (pieceF l).2.2 ≤ 5 := by
  cases l with
  | nil => exact ⟨by decide, by decide⟩
  | cons b t =>
    unfold pieceF
    dsimp only
    repeat' split
    all_goals (try dsimp only)
    all_goals first | exact ⟨by decide, by decide⟩ | (unfold kErr; split <;> exact ⟨by decide, by decide⟩)
theorem cat_err {t : List Tok} {r : Res} (h : 0 ≤ r.2.2 ∧ r.2.2 ≤ 5) : 0 ≤ (cat t r).2.2 ∧ (cat t r).2.2 ≤ 5 := by
  unfold cat; split
  · exact ⟨Int.le_refl 0, (by decide : (0 : Int) ≤ 5)⟩
  · exact h
theorem lexF_err : ∀ (f k : Nat) (l : List UInt8), 0 ≤ (lexF f k l).2.2 ∧ (lexF f k l).2.2 ≤ 5
  | 0, k, [] => ⟨Int.le_refl 0, (by decide : (0 : Int) ≤ 5)⟩
  | _ + 1, k, [] => ⟨Int.le_refl 0, (by decide : (0 : Int) ≤ 5)⟩
  | 0, k, b :: l => ⟨(by decide : (0 : Int) ≤ 1), (by decide : (1 : Int) ≤ 5)⟩
  | f + 1, k, b :: l => by
    rw [lexF]
    split
    · exact cat_err (lexF_err f _ _)
    · exact piece_err (b :: l)
theorem lexR_err (l : List UInt8) : 0 ≤ (lexR l).2.2 ∧ (lexR l).2.2 ≤ 5 := by
  unfold lexR; split
  · exact ⟨by decide, by decide⟩
  · exact lexF_err _ _ _
theorem nz_whole {α : Type} (f : List GTok → Out α) (hf : ∀ ts, Nz (f ts)) (l : List UInt8) : Nz (wholeF f l) := by
  unfold wholeF
  split
  · refine (hf _).then fun x r _ => ?_
    split
    · exact Nz.good _ _
    · exact Nz.bad _ _ (by decide)
  · rename_i h
    exact Nz.bad _ _ (by have := lexR_err l; omega)
/-- What a description leaves begins with what it had, and ends at the end. -/
theorem desc_more : ∀ (n : Nat) (l : List Rl) (ts : List GTok) (l' : List Rl) (r : List GTok), descF n l ts = .good l' r → (∃ m, l' = l ++ m) ∧ (hd r).1 = 0
  | 0, _, _, _, _, h => by cases h
  | n + 1, l, ts, l', r, h => by
    rw [descF] at h
    split at h
    · rename_i h0
      cases h
      exact ⟨⟨[], by simp⟩, h0⟩
    · split at h
      · cases h
      · cases hR : ruleF ts with
        | bad a e => rw [hR] at h; cases h
        | good x r2 =>
          rw [hR] at h
          obtain ⟨⟨m, hm⟩, h2⟩ := desc_more n (l ++ [x]) r2 l' r h
          exact ⟨⟨x :: m, by rw [hm, List.append_assoc]; rfl⟩, h2⟩
/-- A rule alone is the description of that one rule. -/
theorem one_of (l : List UInt8) (x : Rl) : wholeF ruleF l = .good x [] ↔ wholeF (descF 129 []) l = .good [x] [] := by
  unfold wholeF
  split
  · generalize (lexR l).1.map gt = T
    have hd0 : descF 129 [] T = if (hd T).1 = 0 then .good [] T else (ruleF T).then fun x r => descF 128 [x] r := by
      rw [descF]
      rfl
    rw [hd0]
    by_cases h0 : (hd T).1 = 0
    · obtain ⟨a, e, he⟩ := rule_bad (ts := T) (by unfold atomB; rw [h0]; rfl)
      rw [if_pos h0, he]
      show Out.bad a e = _ ↔ (if (hd T).1 = 0 then Out.good [] [] else _) = _
      rw [if_pos h0]
      constructor <;> intro h
      · cases h
      · injection h with h1 _; cases h1
    · rw [if_neg h0]
      cases hR : ruleF T with
      | bad a e => constructor <;> intro h <;> cases h
      | good y r =>
        show (if (hd r).1 = 0 then Out.good y [] else Out.bad (hd r).2.2 1) = Out.good x [] ↔ (descF 128 [y] r).then _ = _
        by_cases h1 : (hd r).1 = 0
        · have e1 : descF 128 [y] r = .good [y] r := by rw [descF, if_pos h1]
          rw [if_pos h1, e1]
          show _ ↔ (if (hd r).1 = 0 then Out.good [y] [] else _) = _
          rw [if_pos h1]
          constructor <;> intro h
          · injection h with h _; rw [h]
          · injection h with h _; injection h with h _; rw [h]
        · rw [if_neg h1]
          constructor <;> intro h
          · cases h
          · exfalso
            cases hD : descF 128 [y] r with
            | bad a e => rw [hD] at h; cases h
            | good l' r' =>
              rw [hD] at h
              obtain ⟨_, h2⟩ := desc_more _ _ _ _ _ hD
              have h3 : l' = [x] := by
                change (if (hd r').1 = 0 then Out.good l' [] else _) = _ at h
                rw [if_pos h2] at h
                injection h
              rw [descF, if_neg h1] at hD
              split at hD
              · cases hD
              · cases hR2 : ruleF r with
                | bad a e => rw [hR2] at hD; cases hD
                | good z r3 =>
                  rw [hR2] at hD
                  obtain ⟨⟨m, hm⟩, _⟩ := desc_more _ _ _ _ _ hD
                  rw [h3] at hm
                  have := congrArg List.length hm
                  simp at this
  · constructor <;> intro h <;> cases h
end ParN
end Go.Proofs.YtfdpelokiljigaaDoor
