/- The reader's terms. Condition: at most twenty thousand tokens. -/
import Derived.Test.YtdalepdpobcpaaaDoorParH
namespace Go.Proofs.YtdalepdpobcpaaaDoor
open Go Go.RowKit
namespace ParI
open Kit LexM TermM TermI TermU LexP ParM ParA ParB ParC ParD ParK ParE ParF ParG ParH
theorem beg_len {ts : List GTok} (h : begB (hd ts) = true) : 1 ≤ ts.length := by
  cases ts with
  | nil => simp [hd, begB] at h
  | cons a r => simp
theorem is_len {ts : List GTok} {s : ByteArray} (h : isB (hd ts) s = true) (hs : s ≠ ⟨#[]⟩) : 1 ≤ ts.length := by
  cases ts with
  | nil => exact absurd rfl (isB_ne h hs)
  | cons a r => simp
theorem more_len (f : List GTok → Out Tm) (hf : ∀ ts t r, f ts = .good t r → r.length + 1 ≤ ts.length) : ∀ (n : Nat) (l : List Tm) (ts : List GTok) (l' : List Tm) (r : List GTok), moreF f n l ts = .good l' r → r.length ≤ ts.length
  | 0, l, ts, l', r, h => by simp [moreF] at h
  | n + 1, l, ts, l', r, h => by
    simp only [moreF] at h
    split at h
    · split at h
      · cases h
      · cases hO : f ts.tail with
        | bad a e => rw [then_bad hO] at h; cases h
        | good t r2 =>
          rw [then_good hO] at h
          have h1 := hf _ _ _ hO
          have h2 := more_len f hf n _ _ _ _ h
          rw [List.length_tail] at h1
          omega
    · split at h
      · injection h with _ h
        rw [← h, List.length_tail]
        omega
      · cases h
theorem args_len (f : List GTok → Out Tm) (hf : ∀ ts t r, f ts = .good t r → r.length + 1 ≤ ts.length) (ts : List GTok) (l : List Tm) (r : List GTok) (h : argsF f ts = .good l r) : r.length ≤ ts.length := by
  unfold argsF at h
  split at h
  · cases hO : f ts.tail with
    | bad a e => rw [then_bad hO] at h; cases h
    | good t r2 =>
      rw [then_good hO] at h
      have h1 := hf _ _ _ hO
      have h2 := more_len f hf _ _ _ _ _ h
      rw [List.length_tail] at h1
      omega
  · injection h with _ h
    rw [h]
    exact Nat.le_refl _
theorem term_len : ∀ (d : Nat) (ts : List GTok) (t : Tm) (r : List GTok), termF d ts = .good t r → r.length + 1 ≤ ts.length
  | 0, ts, t, r, h => by
    simp only [termF] at h
    split at h <;> cases h
  | d + 1, ts, t, r, h => by
    simp only [termF] at h
    split at h
    · cases h
    · rename_i hb
      have hl := beg_len (by simpa using hb)
      split at h
      · cases hO : argsF (termF d) ts.tail with
        | bad a e => rw [then_bad hO] at h; cases h
        | good l r2 =>
          rw [then_good hO] at h
          injection h with _ h
          subst h
          have h1 := args_len _ (term_len d) _ _ _ hO
          rw [List.length_tail] at h1
          omega
      · injection h with _ h
        rw [← h, List.length_tail]
        omega
set_option maxRecDepth 100000 in
set_option maxHeartbeats 6400000 in
theorem terms_any (r : Nat) (w : World) (ts : List GTok) (h : Rd w r ts) (hlen : ts.length ≤ 20000) :
    Calls Tryd.prog 40 #[.pointer (some ⟨r, 0, none⟩)] w (TsR r w (termsF ts)) := by
  obtain ⟨i0, hi, hz0, hz1, hz2⟩ := info_parts Tryd.info28
  have F0 := fld0
  have hr := h.lt
  have HN := Lib.hid (next_any w r ts h)
  have HI := Lib.hid (fun w' tk (k : Rd w' r tk) => tm_top r w' tk k)
  have TL := Lib.hid (fun tk t r h => term_len 4 tk t r h)
  have HO : Hid (termsF ts = if (hd ts).1 = 0 then .good [] ts else (termF 4 ts).then fun t r => tmsF (r.length + 1) [t] r) := Lib.hid rfl
  generalize termsF ts = O at *
  have R0 := Lib.hid h
  unfold TmR at HI
  unfold TsR
  by_cases hk0 : (hd ts).1 = 0
  · have hkb : ((hd ts).1 == 0) = true := by simpa using hk0
    have HO2 : Hid (O = .good [] ts) := Lib.hid (by rw [HO.out, if_pos hk0])
    generalize hd ts = t at *
    clear h hk0 HO
    go_enter Tryd.func40, Tryd.ntmps40
    go_wp2_with fail
    refine HN.out.mono ?_
    rintro e w1 ⟨rfl, k⟩
    have K := Lib.hid k
    clear k HN
    go_wp2_with fail
    go_ret
    exact Or.inl ⟨[], ts, none, 0, HO2.out, rfl, SlIn.none _ _, R0.out.below K.out, Ch.of K.out⟩
  · have hkb : ((hd ts).1 == 0) = false := by simpa using hk0
    have HO2 : Hid (O = (termF 4 ts).then fun t r => tmsF (r.length + 1) [t] r) := Lib.hid (by rw [HO.out, if_neg hk0])
    generalize hd ts = t0 at *
    clear h hk0 HO
    go_enter Tryd.func40, Tryd.ntmps40
    go_wp2_with fail
    refine HN.out.mono ?_
    rintro e w1 ⟨rfl, k⟩
    have HI1 := Lib.hid (HI.out w1 ts (R0.out.below k))
    have C1 := Lib.hid (Ch.of (r := r) k)
    clear k HN R0
    go_wp2_with fail
    refine HI1.out.mono ?_
    rintro e w2 (⟨t, ts2, p, c, hO, rfl, hs, hn, hR, hC⟩ | ⟨a, er, hO, rfl, hC⟩)
    case inr =>
      have HO3 : Hid (O = .bad a er) := Lib.hid (HO2.out.trans (then_bad hO))
      have C2 := Lib.hid (C1.out.trans hC)
      clear hO hC HI1
      go_wp2_with fail
      exact ⟨rfl, Or.inr ⟨a, er, HO3.out, rfl, C2.out⟩⟩
    case inl =>
      have HO3 : Hid (O = tmsF (ts2.length + 1) [t] ts2) := Lib.hid (HO2.out.trans (then_good hO))
      have hl2 := TL.out _ _ _ hO
      have C2 := Lib.hid (C1.out.trans hC)
      have hsz := C1.out.size
      have S2 := hs.weaken (ok' := fun b => w.heap.size ≤ b ∧ b < w2.heap.size) (fun b hb => ⟨Nat.le_trans hsz hb.1, hb.2⟩)
      have O2 := Lib.hid (own_one (base := w.heap.size) S2 hn C2.out.size)
      have R2 := Lib.hid (hR.alloc (.cells #[.string t.nm, .slice p t.args.length c] 31))
      have C3 := Lib.hid (C2.out.alloc (.cells #[.string t.nm, .slice p t.args.length c] 31))
      clear hO hC hs hn hR S2 HI1 C1 C2 HO2
      go_wp2_with fail
      go_loopw [3] (fun v wx => ∃ (M : List (Tm × Value)) (n : Nat) (tk : List GTok), M.length + tk.length ≤ 20001 ∧ tk.length ≤ n ∧ Hid (O = tmsF (n + 1) (M.map (·.1)) tk) ∧ Hid (Own w.heap.size wx M v) ∧ Hid (Rd wx r tk) ∧ Hid (Ch r w wx)) (fun v _ => 20002 - lenOf v)
      case atStart => exact ⟨[(t, .slice p t.args.length c)], ts2.length, ts2, by simp; omega, Nat.le_refl _, HO3, O2, R2, C3⟩
      case round =>
        clear O2 R2 C3 HO3
        obtain ⟨M, n, tk, hMn, htn, HO, OW, RD, CC⟩ := hrel
        obtain ⟨va, vc, hv⟩ := OW.out.form
        subst hv
        have HML : Hid ((M.map (·.1)).length = M.length) := Lib.hid (by simp)
        cases hc : isB (hd tk) sComma with
        | false =>
          have HN := Lib.hid (acc_no wr r tk sComma RD.out hc)
          have HO4 : Hid (O = .good (M.map (·.1)) tk) := Lib.hid (by rw [HO.out]; simp only [tmsF, hc]; rfl)
          clear hc HO
          go_wp2_with fail
          refine HN.out.mono ?_
          rintro e w3 ⟨rfl, k⟩
          have RD3 := Lib.hid (RD.out.below k)
          have S3 := Lib.hid (OW.out.below k).slin
          have C4 := Lib.hid (CC.out.below k)
          clear k HN
          go_wp2_with fail
          go_ret
          exact Or.inl ⟨_, _, va, vc, HO4.out, ret_sl HML.out.symm, by rw [HML.out]; exact S3.out, RD3.out, C4.out⟩
        | true =>
          have HN := Lib.hid (acc_yes wr r tk sComma RD.out lit_ne.2.2.1 hc)
          have HO4 : Hid (O = (termF 4 tk.tail).then fun t r => tmsF n ((M.map (·.1)) ++ [t]) r) := Lib.hid (by rw [HO.out]; simp only [tmsF, hc]; rfl)
          have hl1 := is_len hc lit_ne.2.2.1
          have hlt : tk.tail.length + 1 = tk.length := by rw [List.length_tail]; omega
          clear hc HO
          generalize tk.tail = tk2 at *
          go_wp2_with fail
          refine HN.out.mono ?_
          rintro e w3 ⟨rfl, k1, k2⟩
          have OW3 := Lib.hid (own_ch OW.out k2 hr)
          have C4 := Lib.hid (CC.out.trans k2)
          have HI2 := Lib.hid (HI.out w3 tk2 k1)
          have hv := Lib.hid OW3.out.1.lt
          have hb3 := C4.out.size
          clear k1 k2 HN RD OW CC HI
          go_wp2_with fail
          refine HI2.out.mono ?_
          rintro e w6 (⟨t', ts', p', c', hO', rfl, hs', hn', hR', hC'⟩ | ⟨a', er', hO', rfl, hC'⟩)
          case inr =>
            have C6 := Lib.hid (C4.out.trans hC')
            have HO5 : Hid (O = .bad a' er') := Lib.hid (HO4.out.trans (then_bad hO'))
            clear hC' HI2 hO'
            go_wp2_with fail
            exact ⟨rfl, Or.inr ⟨_, _, HO5.out, rfl, C6.out⟩⟩
          case inl =>
            have C6 := Lib.hid (C4.out.trans hC')
            have O6 := Lib.hid (own_ch OW3.out hC' hr)
            have R6 := Lib.hid hR'
            have S6 := Lib.hid hs'
            have N6 := Lib.hid hn'
            have hl6 := TL.out _ _ _ hO'
            obtain ⟨n', hnn⟩ : ∃ n', n = n' + 1 := ⟨n - 1, by omega⟩
            subst hnn
            have HO5 : Hid (O = tmsF (n' + 1) (List.map (fun x : Tm × Value => x.1) (M ++ [(t', Value.slice p' t'.args.length c')])) ts') := Lib.hid (by rw [HO4.out, then_good hO', List.map_append]; rfl)
            have A1 : M.length + 1 ≤ maxLen := by unfold maxLen; omega
            have A2 : (M.length + 1) * 40 ≤ 140737488355328 := by omega
            have hs6 := hC'.size
            have A4 : w.heap.size ≤ (w6.alloc (.cells #[.string t'.nm, .slice p' t'.args.length c'] 31)).heap.size := by rw [World.size_alloc]; omega
            have HL6 := Lib.hid hl6
            have HLT := Lib.hid hlt
            clear hC' HI2 hO' hR' hs' hn' hl6 hlt
            go_wp2_with (at_builtin; refine wpList_append_lies _ rfl _ _ 29 rfl w.heap.size 31 i0 (.agg #[.string ⟨#[]⟩, .slice none 0 0]) 2 40 Tryd.underlying29 hi hz0 hz1 hz2 rfl (by decide) (.slice va M.length vc) M.length (flatL M) rfl (O6.out.1.alloc _) ⟨w6.heap.size, 0, none⟩ 1 1 [.string t'.nm, .slice p' t'.args.length c'] rfl rfl (news2 _ _ _ _) (one2 _ _ _ _) (by decide) A1 A2 A4 (w6.heap.size + 1) (by simp) ?_; intro g5 cap5 w7 hown hgrow hat hlt5)
            have O7 := Lib.hid (O6.out.add S6.out N6.out hb3 (fun k hk => (hv.out k hk).2) hown hgrow hat)
            have C7 := Lib.hid ((C6.out.alloc _).grown hgrow (fun k hk => (hv.out k hk).1))
            have R7 : Hid (Rd w7 r ts') := Lib.hid ((R6.out.alloc _).grown hgrow (fun k hk => by have := (hv.out k hk).1; omega))
            clear hown hgrow hat
            go_wp2_with fail
            go_roundw
            case rel => exact ⟨M ++ [(t', .slice p' t'.args.length c')], n', ts', by have := HL6.out; have := HLT.out; simp; omega, by have := HL6.out; have := HLT.out; omega, HO5, O7, R7, C7⟩
            case measure => simp [lenOf]; omega
end ParI
end Go.Proofs.YtdalepdpobcpaaaDoor
