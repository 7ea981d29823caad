/- Texts laid together: NolC; NolD; NolE. Their own heads stand before each. -/
import Derived.Test.YtikkaiiinkeobaaGreatDoorGAJ
import Derived.Test.YtikkaiiinkeobaaGreatDoorGBE
import Derived.Test.YtikkaiiinkeobaaGreatDoorNolA
import Derived.Deep.RegionHeld3
import Derived.Deep.DeepCutAuto
import Derived.Test.YtikkaiiinkeobaaGreatDoorNosI
/- gameplayerplain.Rules: equality of lists of rules. No conditions. -/
namespace Go.Proofs.YtikkaiiinkeobaaGreatDoor
open Go Go.RowKit
namespace NolC
open Kit LexM TermM TermI TermU UniM UniK UnpP TermEq
/-- The rules of a list, three cells each. -/
def RowR (B : Nat) (w : World) (l : List Rl) (p : Option Addr) : Prop := ∀ k, k < l.length → ∃ t b o q d u e, l[k]? = some t ∧ p = some ⟨b, o, none⟩ ∧ b < B ∧ w.cell? ⟨b, o + k * 3, none⟩ = some (.string t.1.nm) ∧ w.cell? ⟨b, o + k * 3 + 1, none⟩ = some (.slice q t.1.args.length d) ∧
  w.cell? ⟨b, o + k * 3 + 1 + 1, none⟩ = some (.slice u t.2.length e) ∧ SlIn (· < B) w t.1.args (.slice q t.1.args.length d) ∧ LIn (· < B) w t.2 (.slice u t.2.length e) ∧ t.1.nm.size ≤ maxLen
theorem RIn.row {B : Nat} {w : World} {l : List Rl} {v : Value} (h : RIn (· < B) w l v) : ∃ p c, v = .slice p l.length c ∧ l.length ≤ c ∧ c ≤ maxLen ∧ RowR B w l p := by
  obtain ⟨L, rfl, p, c, e, h1, h2, h3, h4⟩ := h
  refine ⟨p, c, by rw [e]; simp, by simpa using h1, h2, fun k hk => ?_⟩
  have hk' : k < L.length := by simpa using hk
  obtain ⟨g, o, e1, e2, e3⟩ := h4 (by omega)
  obtain ⟨x, hx⟩ : ∃ x, L[k]? = some x := ⟨L[k], by simp [hk']⟩
  obtain ⟨s1, s2, s3⟩ := h3 x (List.mem_of_getElem? hx)
  obtain ⟨q, d, eq⟩ := s1.form
  obtain ⟨u, e', eu⟩ := s3.form
  refine ⟨x.1, g, o, q, d, u, e', by simp [hx], e1, e2, e3 k x hx 0 _ rfl, ?_, ?_, by rw [← eq]; exact s1, by rw [← eu]; exact s3, s2⟩
  · rw [← eq]; exact e3 k x hx 1 _ rfl
  · rw [← eu]; exact e3 k x hx 2 _ rfl
theorem RowR.gr {B : Nat} {w w' : World} {l : List Rl} {p : Option Addr} (h : RowR B w l p) (g : Gr w w') (hB : B ≤ w.heap.size) : RowR B w' l p := fun k hk => by
  obtain ⟨t, b, o, q, d, u, e, h1, h2, h3, h4, h5, h6, h7, h8, h9⟩ := h k hk
  exact ⟨t, b, o, q, d, u, e, h1, h2, h3, (g.cell (Nat.lt_of_lt_of_le h3 hB)).trans h4, (g.cell (Nat.lt_of_lt_of_le h3 hB)).trans h5, (g.cell (Nat.lt_of_lt_of_le h3 hB)).trans h6, h7.gr g hB, h8.gr g hB, h9⟩
theorem eq_atR {l r : List Rl} {k : Nat} {x y : Rl} (h : l[k]? = some x) (h' : r[k]? = some y) : l.drop k = r.drop k ↔ (x.1 = y.1 ∧ x.2 = y.2) ∧ l.drop (k + 1) = r.drop (k + 1) := by
  rw [UnpP.drop_get h, UnpP.drop_get h']; simp [Prod.ext_iff]
theorem eq_endR {l r : List Rl} {k : Nat} (h : l.length ≤ k) (h' : r.length ≤ k) : l.drop k = r.drop k := by
  rw [List.drop_eq_nil_of_le h, List.drop_eq_nil_of_le h']
set_option maxRecDepth 100000 in
set_option maxHeartbeats 3200000 in
theorem rules_of (l r : List Rl) (R : Bool) (hRR : R = true ↔ l = r) (B : Nat) (w : World) (v v' : Value) (hB : B ≤ w.heap.size) (h : RIn (· < B) w l v) (h' : RIn (· < B) w r v') :
    Calls Tryz.prog 24 #[v, v'] w fun e w' => e = .returned (.bool R) ∧ Gr w w' := by
  obtain ⟨p, c, rfl, hc, hm, hR⟩ := RIn.row h
  obtain ⟨p', c', rfl, hc', hm', hR'⟩ := RIn.row h'
  have hlf : l.length ≤ 9223372036854775807 := Nat.le_trans hc hm
  have hlf' : r.length ≤ 9223372036854775807 := Nat.le_trans hc' hm'
  have HR := Lib.hid hR
  have HR' := Lib.hid hR'
  have HB := Lib.hid hB
  have HQ := Lib.hid hRR
  have L1 := Lib.hid (fun k x y h h' => eq_atR (l := l) (r := r) (k := k) (x := x) (y := y) h h')
  have L3 := Lib.hid (fun k h h' => eq_endR (l := l) (r := r) (k := k) h h')
  have L0 : Hid (R = true ↔ l.drop 0 = r.drop 0) := Lib.hid (by simpa using hRR)
  generalize hlm : l.length = m at *
  generalize hrm : r.length = m' at *
  have HM := Lib.hid hlm
  have HM' := Lib.hid hrm
  clear hR hR' h h' hc hc' hm hm' hlm hrm hRR
  by_cases hmm : m = m'
  · subst hmm
    clear HQ
    go_enter Tryz.func24, Tryz.ntmps24
    go_wp2_with fail
    go_loopw [13] (fun i wr => ∃ k : Nat, k ≤ m ∧ i = .int .i64 k ∧ Hid (R = true ↔ l.drop k = r.drop k) ∧ Hid (Gr w wr)) (fun i _ => m - (intOf i).toNat)
    case atStart => exact ⟨0, Nat.zero_le _, rfl, L0, Lib.hid (Gr.refl _)⟩
    case round =>
      obtain ⟨k, hk, rfl, hA, hg⟩ := hrel
      by_cases hlt : k < m
      · obtain ⟨t, b, o, q, d, u, e, ht, rfl, hb, c1, c2, c3, hs, hl, hts⟩ := (HR.out.gr hg.out HB.out) k (by rw [HM.out]; exact hlt)
        obtain ⟨t', b', o', q', d', u', e', ht', rfl, hb', c1', c2', c3', hs', hl', hts'⟩ := (HR'.out.gr hg.out HB.out) k (by rw [HM'.out]; exact hlt)
        have N1 := Lib.hid (hA.out.trans (L1.out k t t' ht ht'))
        obtain ⟨z, hz⟩ : ∃ z : Bool, Hid (z = true ↔ t.1 = t'.1 ∧ t.2 = t'.2) := by
          rcases Classical.em (t.1 = t'.1 ∧ t.2 = t'.2) with hh | hh
          · exact ⟨true, Lib.hid (by simp [hh])⟩
          · exact ⟨false, Lib.hid (by simp only [Bool.false_eq_true, false_iff]; exact hh)⟩
        have KK := Lib.hid (fun w2 (g : Gr wr w2) => rule_eq t.1 t'.1 t.2 t'.2 z hz.out B w2 _ _ _ _ (Nat.le_trans HB.out (hg.out.trans g).size) (hs.gr g (Nat.le_trans HB.out hg.out.size)) (hs'.gr g (Nat.le_trans HB.out hg.out.size)) (hl.gr g (Nat.le_trans HB.out hg.out.size)) (hl'.gr g (Nat.le_trans HB.out hg.out.size)))
        clear hs hs' hl hl' hts hts' ht ht' hA
        generalize t.1.nm = tn at *
        generalize t'.1.nm = tn' at *
        generalize t.1.args.length = ta at *
        generalize t'.1.args.length = ta' at *
        generalize t.2.length = tb at *
        generalize t'.2.length = tb' at *
        cases z
        · have HF : Hid (R = false) := Lib.hid (b_iff_false N1.out (fun hh => by have := hz.out.2 hh.1; simp at this))
          clear N1 hz
          go_upto_region 6 with fail
          go_cut [25] (fun s25 wx => s25 = .bool true ∧ Hid (Gr wr wx))
          case first =>
            go_region_with (first | (go_at_call 18; (with_reducible refine (KK.out _ (by first | exact Gr.drew _ | exact Gr.refl _)).mono ?_); rintro e w3 ⟨rfl, g3⟩; have G3 := Lib.hid (Gr.trans (by first | exact Gr.drew _ | exact Gr.refl _) g3 : Gr wr w3); clear g3))
            all_goals
              go_wp2_with fail
              go_meet
              exact ⟨rfl, G3⟩
          case rest =>
            obtain ⟨rfl, G3⟩ := hcut
            go_wp2_with fail
            go_ret
            exact ⟨TermEq.ret_bool HF.out.symm, hg.out.trans G3.out⟩
        · have HF : Hid (R = true ↔ l.drop (k + 1) = r.drop (k + 1)) := Lib.hid (N1.out.trans ⟨fun hh => hh.2, fun hh => ⟨hz.out.1 rfl, hh⟩⟩)
          clear N1 hz
          go_upto_region 6 with fail
          go_cut [25] (fun s25 wx => s25 = .bool false ∧ Hid (Gr wr wx))
          case first =>
            go_region_with (first | (go_at_call 18; (with_reducible refine (KK.out _ (by first | exact Gr.drew _ | exact Gr.refl _)).mono ?_); rintro e w3 ⟨rfl, g3⟩; have G3 := Lib.hid (Gr.trans (by first | exact Gr.drew _ | exact Gr.refl _) g3 : Gr wr w3); clear g3))
            all_goals
              go_wp2_with fail
              go_meet
              exact ⟨rfl, G3⟩
          case rest =>
            obtain ⟨rfl, G3⟩ := hcut
            go_wp2_with fail
            go_roundw
            case rel => exact ⟨k + 1, by omega, by go_num, HF, Lib.hid (hg.out.trans G3.out)⟩
            case measure => simp [intOf]; omega
      · obtain rfl : k = m := by omega
        have HA2 : Hid (R = true) := Lib.hid (hA.out.2 (L3.out k (Nat.le_refl _) (Nat.le_refl _)))
        go_wp2_with fail
        go_ret
        exact ⟨TermEq.ret_bool HA2.out.symm, hg.out⟩
  · have HF : Hid (R = false) := Lib.hid (b_iff_false HQ.out (fun hh => hmm (by have h1 := HM.out; have h2 := HM'.out; rw [hh] at h1; omega)))
    clear L0 HQ
    go_enter Tryz.func24, Tryz.ntmps24
    go_wp2_with fail
    go_ret
    exact ⟨TermEq.ret_bool HF.out.symm, Gr.refl _⟩
end NolC
end Go.Proofs.YtikkaiiinkeobaaGreatDoor
/- The walk of NormalTwice. Conditions: the heads' keys are short where they are small; term.Text's table is laid. -/
namespace Go.Proofs.YtikkaiiinkeobaaGreatDoor
open Go Go.RowKit
namespace NolD
open Kit LexM TermM TermI TermN TermU TermT UniK UniM UnpP LigM SmrA NorM NorS NosQ NosF NosV NosH NosI NolA
/-! ### Plain facts -/
theorem form_again {r x : Rl} (h0 : codeN r = 0) (h : NfOf r x) : codeN x = 0 ∧ NfOf x x := by
  obtain ⟨hv, h5⟩ := code_zero h0
  obtain ⟨V', h1, h2, h3⟩ := nf_twice (vsr_vars r) (Nat.le_trans h5 (by omega)) (h.1 h0)
  have hp := NorQ.vars_perm h1 (vsr_vars x)
  have hc : codeN x = 0 := by
    unfold codeN
    rw [if_pos (nf_vl h h0), if_neg (by rw [← hp.length_eq, h2]; omega)]
  exact ⟨hc, fun _ => NorQ.nf_perm hp h3, fun e => absurd hc e⟩
theorem again_same {r x y : Rl} (h0 : codeN r = 0) (h : NfOf r x) (hy : NfOf x y) : x = y := nf_det (form_again h0 h).2 hy
theorem nodup_len {α : Type} : ∀ (m L : List α), m.Nodup → (∀ x ∈ m, x ∈ L) → m.length ≤ L.length
  | [], _, _, _ => by simp
  | x :: m, L, h, hs => by
    obtain ⟨s, t, e⟩ := List.append_of_mem (hs x List.mem_cons_self)
    obtain ⟨h1, h2⟩ := List.nodup_cons.1 h
    have := nodup_len m (s ++ t) h2 fun y hy => by
      have h3 := hs y (List.mem_cons_of_mem _ hy)
      rw [e] at h3
      rcases List.mem_append.1 h3 with h3 | h3
      · exact List.mem_append_left _ h3
      · rcases List.mem_cons.1 h3 with rfl | h3
        · exact absurd hy h1
        · exact List.mem_append_right _ h3
    rw [e]
    simp only [List.length_append, List.length_cons] at this ⊢
    omega
theorem asc_nodup {m : List Rl} (h : Asc cmpR m) : m.Nodup := by
  rw [List.nodup_iff_pairwise_ne]
  exact h.imp fun {a b} h e => by
    subst e
    have := (r_zero a a).2 rfl
    omega
theorem codes_ok {l : List Rl} (h : codeL l = 0) : l.length ≤ 128 ∧ ∀ r ∈ l, codeN r = 0 := by
  unfold codeL at h
  split at h
  · cases h
  · rename_i hl
    refine ⟨by omega, ?_⟩
    have gen : ∀ l : List Rl, firstE l = 0 → ∀ r ∈ l, codeN r = 0 := by
      intro l
      induction l with
      | nil => intro _ r hr; simp at hr
      | cons a l ih =>
        intro h r hr
        unfold firstE at h
        split at h
        · rename_i h0
          rcases List.mem_cons.1 hr with rfl | hr
          · exact h0
          · exact ih h r hr
        · rename_i h0
          exact absurd h h0
    exact gen l h
theorem nf_some {r : Rl} : ∃ x, NfOf r x := by
  by_cases h : codeN r = 0
  · obtain ⟨x, hx⟩ := nf_ex (vsr_vars r).1 r
    exact ⟨x, fun _ => hx, fun e => absurd h e⟩
  · exact ⟨zeroR, fun e => absurd e h, fun _ => rfl⟩
theorem rs_len {l m : List Rl} (h : RsOf l m) : m.length ≤ l.length := by
  by_cases h0 : codeL l = 0
  · obtain ⟨h1, h2⟩ := h.1 h0
    classical
    have hex : ∀ r : Rl, ∃ x, NfOf r x := fun r => nf_some
    obtain ⟨g, hg⟩ := Classical.axiomOfChoice hex
    have := nodup_len m (l.map g) (asc_nodup h1) fun x hx => by
      obtain ⟨r, hr, hn⟩ := (h2 x).1 hx
      rw [nf_det hn (hg r)]
      exact List.mem_map_of_mem hr
    simpa using this
  · rw [h.2 h0]; simp
theorem list_code {l m : List Rl} (h0 : codeL l = 0) (h : RsOf l m) : codeL m = 0 := by
  obtain ⟨h1, h2⟩ := h.1 h0
  obtain ⟨hl, hc⟩ := codes_ok h0
  unfold codeL
  rw [if_neg (by have := rs_len h; omega)]
  refine first_ok fun x hx => ?_
  obtain ⟨r, hr, hn⟩ := (h2 x).1 hx
  exact (form_again (hc r hr) hn).1
theorem list_again {l m k : List Rl} (h0 : codeL l = 0) (h : RsOf l m) (hk : RsOf m k) : m = k := by
  obtain ⟨h1, h2⟩ := h.1 h0
  obtain ⟨hl, hc⟩ := codes_ok h0
  have hm : ∀ x ∈ m, codeN x = 0 ∧ NfOf x x := fun x hx => by
    obtain ⟨r, hr, hn⟩ := (h2 x).1 hx
    exact form_again (hc r hr) hn
  obtain ⟨k1, k2⟩ := hk.1 (list_code h0 h)
  refine asc_unique r_neg r_zero h1 k1 fun x => ⟨fun hx => (k2 x).2 ⟨x, hx, (hm x hx).2⟩, fun hx => ?_⟩
  obtain ⟨r, hr, hn⟩ := (k2 x).1 hx
  rw [nf_det hn (hm r hr).2]
  exact hr
set_option maxRecDepth 100000 in
set_option maxHeartbeats 6400000 in
theorem twice (N : Nat) (h4 : 4 ≤ N) (hN : (N + 3) * 4000000 ≤ 4611686018427387904) (l : List Rl) (w : World) (v : Value) (hw : Wd w) (hl : RIn (· < w.heap.size) w l v) (hk : ∀ x ∈ l, sizeT x.1 ≤ 20 → klen x.1 ≤ N) :
    Calls Tryz.prog 6 #[v] w fun e w' => e = .returned (.bool true) ∧ Below w.heap.size w w' := by
  have CS := Lib.hid (SmrA.rules_any N h4 hN l 12 (by decide) w _ hl hk)
  have RL := Lib.hid (fun w' (g : Below w.heap.size w w') => NosH.rules_any l w.heap.size w' _ (hw.below g hw.1) g.size (hl.keep fun b o hb => g.cell (p := ⟨b, o, none⟩) hb))
  obtain ⟨p, c, rfl, hc, hm, hR⟩ := NolC.RIn.row hl
  have hlf : l.length ≤ 9223372036854775807 := Nat.le_trans hc hm
  have CA := Lib.hid (fun w' (q : Below w.heap.size w w') => NosY.awake_any w' (hw.below q hw.1))
  have HW := Lib.hid hw
  have HR := Lib.hid (fun w' (k : Below w.heap.size w w') => show NolC.RowR w.heap.size w' l p from by
    obtain ⟨p', c', e, _, _, h⟩ := NolC.RIn.row (hl.keep (w' := w') fun b o hb => k.cell (p := ⟨b, o, none⟩) hb)
    injection e with e _ _
    rw [e]; exact h)
  unfold SmrQ at CS
  unfold RlR at RL
  generalize hnl : l.length = n at *
  have HN := Lib.hid hnl
  clear hR hl hc hm hw hnl hk h4 hN
  go_enter Tryz.func6, Tryz.ntmps6
  go_wp2_with fail
  refine CS.out.mono ?_
  rintro e w3 ⟨B, rfl, hB0, k3⟩
  have K3 := Lib.hid k3
  clear hB0 CS k3
  cases B
  · go_wp2_with fail
    refine (CA.out _ K3.out).mono ?_
    rintro e w4 ⟨rfl, k⟩
    have D := Lib.hid (next0 K3.out k)
    clear k
    go_wp2_with fail
    go_ret
    exact ⟨rfl, D.out⟩
  go_wp2_with fail
  go_loopw [3] (fun i wr => ∃ k : Nat, k ≤ n ∧ i = .int .i64 k ∧ Hid (Below w.heap.size w wr)) (fun i _ => n - (intOf i).toNat)
  case atStart => exact ⟨0, Nat.zero_le _, rfl, K3⟩
  case round =>
    clear K3
    obtain ⟨k, hk, rfl, hD⟩ := hrel
    by_cases hlt : k < n
    · clear CA RL
      obtain ⟨r, b, o, q, d, lp, lc, hr, rfl, hb, c1, c2, c3, hs, hls, hrn⟩ := (HR.out wr hD.out) k (by rw [HN.out]; exact hlt)
      have hBw := hD.out.size
      have RN := Lib.hid (rule_any r.1 r.2 w.heap.size wr _ _ hBw hs hls hrn)
      have er : (r.1, r.2) = r := rfl
      rw [er] at RN
      unfold NfR at RN
      clear hs hls hr er
      generalize r.1.nm = rn at *
      generalize r.1.args.length = ra at *
      generalize r.2.length = rl at *
      go_wp2_with fail
      refine RN.out.mono ?_
      rintro e w4 ⟨x, q4, d4, v4, rfl, hnf, hs4, hl4, hn4, k4⟩
      obtain ⟨p4, e4, rfl⟩ := hl4.form
      have D4 := Lib.hid (next0 hD.out k4)
      have NF := Lib.hid hnf
      obtain ⟨W5, hW5⟩ : ∃ z, z = w4.alloc (.cells #[.string x.1.nm, .slice q4 x.1.args.length d4, .slice p4 x.2.length e4] 27) := ⟨_, rfl⟩
      have J5 : Hid (Below w4.heap.size w4 W5) := Lib.hid (by rw [hW5]; exact below_alloc _ _)
      have H5 : Hid (Has W5 w4.heap.size #[.string x.1.nm, .slice q4 x.1.args.length d4, .slice p4 x.2.length e4]) := Lib.hid (by rw [hW5]; exact Has.new _ _ _)
      have hz5 : w4.heap.size + 1 ≤ W5.heap.size := by rw [hW5]; simp
      have D5 := Lib.hid (next0 D4.out J5.out)
      have S5 := Lib.hid (fun w' (g : Below W5.heap.size W5 w') => (hs4.frame (w' := w') fun b o hb => ((g.cell (p := ⟨b, o, none⟩) (show b < W5.heap.size from by have := hb.2; omega)).trans (J5.out.cell (p := ⟨b, o, none⟩) hb.2))).weaken (ok' := (· < w4.heap.size)) fun b hb => hb.2)
      have L5 := Lib.hid (fun w' (g : Below W5.heap.size W5 w') => (hl4.keep (w' := w') fun b o hb => ((g.cell (p := ⟨b, o, none⟩) (show b < W5.heap.size from by have := hb.2; omega)).trans (J5.out.cell (p := ⟨b, o, none⟩) hb.2))).wide (ok' := (· < w4.heap.size)) fun b hb => hb.2)
      have N4 := Lib.hid hn4
      have RX := Lib.hid (rule_any x.1 x.2 w4.heap.size W5 _ _ (by omega) (S5.out _ (Below.refl _ _)) (L5.out _ (Below.refl _ _)) hn4)
      have ex : (x.1, x.2) = x := rfl
      rw [ex] at RX
      unfold NfR at RX
      have FA := Lib.hid (fun (h0 : codeN r = 0) => form_again h0 hnf)
      have AS := Lib.hid (fun (h0 : codeN r = 0) (y : Rl) (hy : NfOf x y) => again_same h0 hnf hy)
      have EQ := Lib.hid (fun w' (g : Below W5.heap.size W5 w') sv vv (h1 : SlIn (fun b => b < w'.heap.size) w' x.1.args sv) (h2 : LIn (fun b => b < w'.heap.size) w' x.2 vv) => rule_eq x.1 x.1 x.2 x.2 true (by simp) w'.heap.size w' (.slice q4 x.1.args.length d4) sv (.slice p4 x.2.length e4) vv (Nat.le_refl _) ((S5.out w' g).weaken fun b hb => by have := g.size; omega) h1 ((L5.out w' g).wide fun b hb => by have := g.size; omega) h2)
      clear hnf hs4 hl4 hn4 k4 RN S5 L5 ex
      generalize hcr : codeN r = cr at *
      clear hcr
      by_cases hc0 : cr = 0
      · subst hc0
        obtain ⟨f1, f2⟩ := FA.out rfl
        rw [f1] at RX
        have AS0 := Lib.hid (fun (y : Rl) (hy : NfOf x y) => (AS.out rfl y hy).symm)
        clear f1 f2 FA AS
        have H5' := UnpP.has3 H5.out
        obtain ⟨y1, y2, y3, y4, y5, y6, y7⟩ := H5'
        go_upto_region 7 with fail
        rw [← hW5]
        clear hW5
        go_wp2_with fail
        refine RX.out.mono ?_
        rintro e w6 ⟨y, q6, d6, v6, rfl, hnf6, hs6, hl6, hn6, k6⟩
        obtain rfl := AS0.out y hnf6
        obtain ⟨p6, e6, rfl⟩ := hl6.form
        obtain ⟨W7, hW7⟩ : ∃ z, z = w6.alloc (.cells #[.string y.1.nm, .slice q6 y.1.args.length d6, .slice p6 y.2.length e6] 27) := ⟨_, rfl⟩
        have J7 : Hid (Below w6.heap.size w6 W7) := Lib.hid (by rw [hW7]; exact below_alloc _ _)
        have H7 : Hid (Has W7 w6.heap.size #[.string y.1.nm, .slice q6 y.1.args.length d6, .slice p6 y.2.length e6]) := Lib.hid (by rw [hW7]; exact Has.new _ _ _)
        have K7 := Lib.hid (next0 k6 J7.out)
        have D7 := Lib.hid (next0 D5.out K7.out)
        have H57 := Lib.hid ((H5.out.step0 K7.out))
        have E7 := Lib.hid (EQ.out W7 K7.out _ _ ((hs6.frame (w' := W7) fun b o hb => J7.out.cell (p := ⟨b, o, none⟩) hb.2).weaken fun b hb => Nat.lt_of_lt_of_le hb.2 J7.out.size) ((hl6.keep (w' := W7) fun b o hb => J7.out.cell (p := ⟨b, o, none⟩) hb.2).wide fun b hb => Nat.lt_of_lt_of_le hb.2 J7.out.size))
        clear hnf6 hs6 hl6 hn6 k6 EQ RX y1 y2 y3 y4 y5 y6 y7
        generalize y.1.nm = yn at *
        generalize y.1.args.length = ya at *
        generalize y.2.length = yl at *
        obtain ⟨y1, y2, y3, y4, y5, y6, y7⟩ := UnpP.has3 H57.out
        obtain ⟨z1, z2, z3, z4, z5, z6, z7⟩ := UnpP.has3 H7.out
        go_upto_region 9 with fail
        rw [← hW7]
        clear hW7
        go_wp2_with fail
        refine E7.out.mono ?_
        rintro e w8 ⟨rfl, g8⟩
        have D8 := Lib.hid (next0 D7.out g8.1)
        clear g8
        go_wp2_with fail
        go_roundw
        case rel => exact ⟨k + 1, by omega, by go_num, D8⟩
        case measure => simp [intOf]; omega
      · have hcb : (cr != 0) = true := by simpa using hc0
        go_upto_region 7 with fail
        rw [← hW5]
        clear hW5
        go_wp2_with fail
        go_roundw
        case rel => exact ⟨k + 1, by omega, by go_num, D5⟩
        case measure => simp [intOf]; omega
    · obtain rfl : k = n := by omega
      clear HR
      have RA := Lib.hid (RL.out wr hD.out)
      clear RL
      generalize hcl : codeL l = c1 at *
      have HCL := Lib.hid hcl
      clear hcl
      go_wp2_with fail
      refine RA.out.mono ?_
      rintro e w6 ⟨m, v6, rfl, hrs, hi6, k6⟩
      obtain ⟨p6, e6, rfl⟩ := hi6.form
      have K6 := Lib.hid (next0 hD.out k6)
      have I6 := Lib.hid (hi6.wide (ok' := (· < w6.heap.size)) fun b hb => hb.2)
      have RS := Lib.hid hrs
      clear hi6 k6 RA hrs
      by_cases hc1 : c1 = 0
      · subst hc1
        have RM := Lib.hid (NosH.rules_any m w6.heap.size w6 _ (HW.out.below K6.out HW.out.1) (Nat.le_refl _) I6.out)
        unfold RlR at RM
        have LA := Lib.hid (fun k (hk : RsOf m k) => list_again HCL.out RS.out hk)
        have hcm := list_code HCL.out RS.out
        rw [hcm] at RM
        clear hcm
        generalize hml : m.length = ml at *
        go_wp2_with fail
        refine RM.out.mono ?_
        rintro e w7 ⟨m7, v7, rfl, hrs7, hi7, k7⟩
        obtain rfl := LA.out m7 hrs7
        have K7 := Lib.hid (next0 K6.out k7)
        have EQ := Lib.hid (NolC.rules_of m m true (by simp) w7.heap.size w7 _ _ (Nat.le_refl _) ((I6.out.keep (w' := w7) fun b o hb => k7.cell (p := ⟨b, o, none⟩) hb).wide fun b hb => Nat.lt_of_lt_of_le hb k7.size) (hi7.wide fun b hb => hb.2))
        obtain ⟨p7, e7, rfl⟩ := hi7.form
        clear hrs7 hi7 k7 RM LA I6
        rw [hml] at EQ
        simp only [hml] at *
        go_wp2_with fail
        refine EQ.out.mono ?_
        rintro e w8 ⟨rfl, g8⟩
        have K8 := Lib.hid (next0 K7.out g8.1)
        clear g8
        go_wp2_with fail
        refine (CA.out _ K8.out).mono ?_
        rintro e w9 ⟨rfl, k9⟩
        have K9 := Lib.hid (next0 K8.out k9)
        clear k9
        go_wp2_with fail
        go_ret
        exact ⟨rfl, K9.out⟩
      · have hcb : (c1 != 0) = true := by simpa using hc1
        obtain rfl := RS.out.2 (by rw [HCL.out]; exact hc1)
        simp only [List.length_nil] at *
        go_wp2_with fail
        refine (CA.out _ K6.out).mono ?_
        rintro e w9 ⟨rfl, k9⟩
        have K9 := Lib.hid (next0 K6.out k9)
        clear k9
        go_wp2_with fail
        go_ret
        exact ⟨rfl, K9.out⟩
end NolD
end Go.Proofs.YtikkaiiinkeobaaGreatDoor
/- The walk of NormalTurned. Conditions: the heads' keys are short where they are small; term.Text's table is laid. -/
namespace Go.Proofs.YtikkaiiinkeobaaGreatDoor
open Go Go.RowKit
namespace NolE
open Kit LexM TermM TermI TermN TermU TermT UniK UniM UnpP LigM SmrA NorM NorS NosQ NosF NosV NosH NosI NolA NolD
/-! ### Plain facts -/
theorem codes_iff {l : List Rl} (hl : l.length ≤ 128) : codeL l = 0 ↔ ∀ r ∈ l, codeN r = 0 := by
  refine ⟨fun h => (codes_ok h).2, fun h => ?_⟩
  unfold codeL
  rw [if_neg (by omega)]
  exact first_ok h
/-- The first k of a list that is turned by d. -/
def rot (l : List Rl) (d k : Nat) : List Rl := (List.range k).filterMap fun i => l[(i + d) % l.length]?
theorem rot_more {l : List Rl} {d k : Nat} {r : Rl} (h : l[(k + d) % l.length]? = some r) : rot l d (k + 1) = rot l d k ++ [r] := by
  unfold rot
  rw [List.range_succ, List.filterMap_append]
  simp [h]
theorem rot_mem {l : List Rl} {d : Nat} (hn : 0 < l.length) (x : Rl) : x ∈ rot l d l.length ↔ x ∈ l := by
  unfold rot
  rw [List.mem_filterMap]
  constructor
  · rintro ⟨i, _, h⟩
    exact List.mem_of_getElem? h
  · intro h
    obtain ⟨j, hj⟩ := List.mem_iff_getElem?.1 h
    have hjl := (List.getElem?_eq_some_iff.1 hj).1
    have hd := Nat.mod_lt d hn
    refine ⟨(j + (l.length - d % l.length)) % l.length, List.mem_range.2 (Nat.mod_lt _ hn), ?_⟩
    have e : ((j + (l.length - d % l.length)) % l.length + d) % l.length = j := by
      rw [Nat.add_mod, Nat.mod_mod, ← Nat.add_mod]
      have : j + (l.length - d % l.length) + d = j + l.length * (d / l.length + 1) := by
        have := Nat.div_add_mod d l.length
        rw [Nat.mul_add, Nat.mul_one]
        omega
      rw [this, Nat.add_mul_mod_self_left, Nat.mod_eq_of_lt hjl]
    rw [e]
    exact hj
theorem turn_codes {l m : List Rl} (hl : l.length ≤ 128) (hm : m.length ≤ 128) (h : ∀ x, x ∈ m ↔ x ∈ l) : codeL m = 0 ↔ codeL l = 0 := by
  rw [codes_iff hl, codes_iff hm]
  exact ⟨fun k r hr => k r ((h r).2 hr), fun k r hr => k r ((h r).1 hr)⟩
theorem turn_same {l m x y : List Rl} (h : ∀ x, x ∈ m ↔ x ∈ l) (hc : codeL m = 0 ↔ codeL l = 0) (hx : RsOf l x) (hy : RsOf m y) : x = y := by
  by_cases h0 : codeL l = 0
  · obtain ⟨a1, a2⟩ := hx.1 h0
    obtain ⟨b1, b2⟩ := hy.1 (hc.2 h0)
    exact asc_unique r_neg r_zero a1 b1 fun z => (a2 z).trans (Iff.trans ⟨fun ⟨r, hr, hn⟩ => ⟨r, (h r).2 hr, hn⟩, fun ⟨r, hr, hn⟩ => ⟨r, (h r).1 hr, hn⟩⟩ (b2 z).symm)
  · rw [hx.2 h0, hy.2 (fun e => h0 (hc.1 e))]
theorem turn_eq {l m : List Rl} (h : ∀ x, x ∈ m ↔ x ∈ l) (hc : codeL m = 0 ↔ codeL l = 0) {R : Bool} {c : Int} (hE : EqOf l m R c) : (codeL l = 0 → R = true ∧ c = 0) ∧ (codeL l ≠ 0 → R = false ∧ c = codeL l) := by
  refine ⟨fun h0 => ?_, fun h0 => hE.1 h0⟩
  obtain ⟨e1, e2⟩ := hE.2.2 h0 (hc.2 h0)
  exact ⟨e2.2 fun x => ⟨fun ⟨r, hr, hn⟩ => ⟨r, (h r).2 hr, hn⟩, fun ⟨r, hr, hn⟩ => ⟨r, (h r).1 hr, hn⟩⟩, e1⟩
/-! ### An own row of rules that lie in older memory -/
theorem own_form {base n : Nat} {w : World} {v : Value} {cs : List Value} (h : w.ownsRow base KR.ty 3 v n cs) : ∃ a c, v = .slice a n c := by
  rcases h.2 with ⟨e, hz⟩ | ⟨g, cap, cur, e, _⟩
  · exact ⟨none, 0, by rw [e, hz]⟩
  · exact ⟨_, cap, e⟩
theorem row_mix {base B : Nat} {w : World} {L : List (Rl × Value × Value)} {v : Value} (h1 : w.ownsRow base KR.ty 3 v L.length (KR.flat L)) (hB : B ≤ w.heap.size) (h3 : ∀ x ∈ L, KR.inn (· < B) w x) : RIn (· < w.heap.size) w (L.map (·.1)) v := by
  have hl := h1.lt
  have h3' : ∀ x ∈ L, KR.inn (· < w.heap.size) w x := fun x hx => KR.wide (h3 x hx) fun b hk => Nat.lt_of_lt_of_le hk hB
  refine ⟨L, rfl, ?_⟩
  rcases h1.2 with ⟨e, hz⟩ | ⟨g, cap, cur, e, e2, e3, e4, e5, _⟩
  · exact ⟨none, 0, by rw [e, hz], by omega, Nat.zero_le _, h3', fun h => by omega⟩
  · subst e
    refine ⟨_, cap, rfl, e4, e5, h3', fun _ => ⟨g, 0, rfl, (hl g rfl).2, fun i x hx j u hu => ?_⟩⟩
    have hi := (List.getElem?_eq_some_iff.1 hx).1
    have hj := (List.getElem?_eq_some_iff.1 hu).1
    rw [KR.len] at hj
    rw [show 0 + i * 3 + j = i * 3 + j by omega]
    exact (h1.cellAt _ (by omega)).trans (flat_get L i x hx j u hu)
theorem bounds_u8 {n : Int} (h : (Lit.int .u8 n).wf = true) : ∃ k : Nat, n = k ∧ k ≤ 255 := by
  simp [Lit.wf, IntKind.min, IntKind.max, IntKind.signed, IntKind.bits] at h
  exact ⟨n.toNat, by omega, by omega⟩
theorem rem_nat (k d n : Nat) (hk : k ≤ 100) (hd : d ≤ 255) (hn : 0 < n) (hn' : n ≤ 100) : IntKind.i64.wrap ((IntKind.i64.wrap ((k : Int) + (IntKind.i64.wrap (d : Int)))).tmod n) = (((k + d) % n : Nat) : Int) := by
  have e1 : IntKind.i64.wrap (d : Int) = d := by rw [IntKind.wrap_i64]; omega
  have e2 : IntKind.i64.wrap ((k : Int) + d) = ((k + d : Nat) : Int) := by rw [IntKind.wrap_i64]; omega
  rw [e1, e2, Int.tmod_eq_emod_of_nonneg (by omega), ← Int.natCast_emod]
  have := Nat.mod_lt (k + d) hn
  rw [IntKind.wrap_i64]; omega
set_option maxRecDepth 100000 in
set_option maxHeartbeats 6400000 in
theorem turned (N : Nat) (h4 : 4 ≤ N) (hN : (N + 3) * 4000000 ≤ 4611686018427387904) (l : List Rl) (d : Nat) (hd : d ≤ 255) (w : World) (v : Value) (hw : Wd w) (hl : RIn (· < w.heap.size) w l v) (hk : ∀ x ∈ l, sizeT x.1 ≤ 20 → klen x.1 ≤ N) :
    Calls Tryz.prog 9 #[v, .int .u8 d] w fun e w' => e = .returned (.bool true) ∧ Below w.heap.size w w' := by
  obtain ⟨i0, hi, hz0, hz1, hz2⟩ := info_parts Tryz.infoR
  have CS := Lib.hid (SmrA.rules_any N h4 hN l 12 (by decide) w _ hl hk)
  have RL := Lib.hid (fun w' (g : Below w.heap.size w w') => NosH.rules_any l w.heap.size w' _ (hw.below g hw.1) g.size (hl.keep fun b o hb => g.cell (p := ⟨b, o, none⟩) hb))
  have HL := Lib.hid hl
  obtain ⟨p, c, rfl, hc, hm, hR⟩ := NolC.RIn.row hl
  have hlf : l.length ≤ 9223372036854775807 := Nat.le_trans hc hm
  have CA := Lib.hid (fun w' (q : Below w.heap.size w w') => NosY.awake_any w' (hw.below q hw.1))
  have HW := Lib.hid hw
  have HR := Lib.hid (fun w' (k : Below w.heap.size w w') => show NolC.RowR w.heap.size w' l p from by
    obtain ⟨p', c', e, _, _, h⟩ := NolC.RIn.row (hl.keep (w' := w') fun b o hb => k.cell (p := ⟨b, o, none⟩) hb)
    injection e with e _ _
    rw [e]; exact h)
  unfold SmrQ at CS
  unfold RlR at RL
  generalize hnl : l.length = n at *
  have HN := Lib.hid hnl
  clear hR hl hc hm hw hnl hk h4 hN
  go_enter Tryz.func9, Tryz.ntmps9
  go_wp2_with fail
  refine CS.out.mono ?_
  rintro e w3 ⟨B, rfl, hB0, k3⟩
  have K3 := Lib.hid k3
  clear CS k3
  cases B
  · clear hB0
    go_wp2_with fail
    refine (CA.out _ K3.out).mono ?_
    rintro e w4 ⟨rfl, k⟩
    have D := Lib.hid (next0 K3.out k)
    clear k
    go_wp2_with fail
    go_ret
    exact ⟨rfl, D.out⟩
  have h12 := (hB0 rfl).1
  clear hB0
  by_cases hn0 : n = 0
  · subst hn0
    go_wp2_with fail
    refine (CA.out _ K3.out).mono ?_
    rintro e w4 ⟨rfl, k⟩
    have D := Lib.hid (next0 K3.out k)
    clear k
    go_wp2_with fail
    go_ret
    exact ⟨rfl, D.out⟩
  have hnb : ((n : Int) == 0) = false := by rw [beq_eq_false_iff_ne]; omega
  go_wp2_with fail
  go_loopw [5, 6] (fun v i wr => ∃ (k : Nat) (F : List (Rl × Value × Value)), k ≤ n ∧ i = .int .i64 k ∧ Hid (F.length = k) ∧ Hid (wr.ownsRow w.heap.size KR.ty 3 v F.length (KR.flat F)) ∧ Hid (∀ x ∈ F, KR.inn (· < w.heap.size) w x) ∧ Hid (F.map (·.1) = rot l d k) ∧ Hid (Below w.heap.size w wr)) (fun _ i _ => n - (intOf i).toNat)
  case atStart => exact ⟨0, [], Nat.zero_le _, rfl, Lib.hid rfl, Lib.hid (OwnG.nil (K := KR) _ _).1, Lib.hid (by simp), Lib.hid rfl, K3⟩
  case round =>
    clear K3
    obtain ⟨k, F, hk, rfl, hFk, hO, hI, hF, hD⟩ := hrel
    obtain ⟨va, vc, rfl⟩ := own_form hO.out
    by_cases hlt : k < n
    · clear CA RL
      have hj : (k + d) % n < n := Nat.mod_lt _ (by omega)
      have RE := rem_nat k d n (by omega) hd (by omega) (by omega)
      obtain ⟨r, b, o, q, e, lp, lc, hr, rfl, hb, c1, c2, c3, hs, hls, hrn⟩ := (HR.out w (Below.refl _ _)) ((k + d) % n) (by rw [HN.out]; exact hj)
      have c1 := (hD.out.cell (p := ⟨b, o + (k + d) % n * 3, none⟩) hb).trans c1
      have c2 := (hD.out.cell (p := ⟨b, o + (k + d) % n * 3 + 1, none⟩) hb).trans c2
      have c3 := (hD.out.cell (p := ⟨b, o + (k + d) % n * 3 + 1 + 1, none⟩) hb).trans c3
      have hI8 : Hid (∀ x ∈ F ++ [(r, Value.slice q r.1.args.length e, Value.slice lp r.2.length lc)], KR.inn (· < w.heap.size) w x) := Lib.hid (fun x hx => by
        rcases List.mem_append.1 hx with hx | hx
        · exact hI.out x hx
        · obtain rfl := List.mem_singleton.1 hx
          exact ⟨hs, hrn, hls⟩)
      have A1 : F.length + 1 ≤ maxLen := by have := hFk.out; unfold maxLen; omega
      have A2 : (F.length + 1) * 64 ≤ 140737488355328 := by have := hFk.out; omega
      have hbw := hD.out.size
      have hvl : Hid (∀ j, (Value.slice va F.length vc).ownBlock = some j → w.heap.size ≤ j ∧ j < wr.heap.size) := Lib.hid hO.out.lt
      have A3 : w.heap.size ≤ (wr.alloc (.cells #[.string r.1.nm, .slice q r.1.args.length e, .slice lp r.2.length lc] 27)).heap.size := by simp; omega
      have hF8 : Hid ((F ++ [(r, Value.slice q r.1.args.length e, Value.slice lp r.2.length lc)]).map (·.1) = rot l d (k + 1)) := Lib.hid (by
        rw [List.map_append, hF.out]
        exact (rot_more (by rw [HN.out]; exact hr)).symm)
      clear hs hls hrn hr
      have B1 : (0 : Int) ≤ ((k : Int) + d) % n := Int.emod_nonneg _ (by omega)
      have B2 : ((k : Int) + d) % n < n := Int.emod_lt_of_pos _ (by omega)
      generalize hjj : (k + d) % n = j at *
      go_wp2_with (at_builtin; go_must (refine wpList_append_lies _ rfl _ _ 37 rfl w.heap.size 27 i0 (.agg #[.string ⟨#[]⟩, .slice none 0 0, .slice none 0 0]) 3 64 Tryz.underlying37 hi hz0 hz1 hz2 rfl (by decide) (.slice va F.length vc) F.length (KR.flat F) rfl (hO.out.alloc _) ⟨wr.heap.size, 0, none⟩ 1 1 [.string r.1.nm, .slice q r.1.args.length e, .slice lp r.2.length lc] rfl rfl (newsK _ _ _ _ _) (one_R _ _ _ _ _ _ _) (by decide) A1 A2 A3 (wr.heap.size + 1) (by simp) ?_; intro g cap w8 hown hgrow hat hlt8; have O8 := Lib.hid hown; have D8 := Lib.hid ((hD.out.alloc (by exact hD.out.size) (.cells #[.string r.1.nm, .slice q r.1.args.length e, .slice lp r.2.length lc] 27)).grown hgrow (by have := hD.out.size; simp; omega) (fun j hj => by have := (hvl.out j hj).1; omega)); clear hown hgrow hat))
      go_roundw
      case rel => exact ⟨k + 1, F ++ [(r, .slice q r.1.args.length e, .slice lp r.2.length lc)], by omega, by go_num, Lib.hid (by rw [List.length_append, List.length_singleton]; have := hFk.out; omega), Lib.hid (by rw [flat_app, flat_one, List.length_append, List.length_singleton]; exact O8.out), hI8, hF8, D8⟩
      case measure => simp [intOf]; omega
    · obtain rfl : k = n := by omega
      have hj : d % k < k := Nat.mod_lt _ (by omega)
      have RE := rem_nat 0 d k (by omega) hd (by omega) (by omega)
      obtain ⟨r, b, o, q, e, lp, lc, hr, rfl, hb, c1, c2, c3, hs, hls, hrn⟩ := (HR.out w (Below.refl _ _)) (d % k) (by rw [HN.out]; exact hj)
      have c1 := (hD.out.cell (p := ⟨b, o + d % k * 3, none⟩) hb).trans c1
      have c2 := (hD.out.cell (p := ⟨b, o + d % k * 3 + 1, none⟩) hb).trans c2
      have c3 := (hD.out.cell (p := ⟨b, o + d % k * 3 + 1 + 1, none⟩) hb).trans c3
      have hI8 : Hid (∀ x ∈ F ++ [(r, Value.slice q r.1.args.length e, Value.slice lp r.2.length lc)], KR.inn (· < w.heap.size) w x) := Lib.hid (fun x hx => by
        rcases List.mem_append.1 hx with hx | hx
        · exact hI.out x hx
        · obtain rfl := List.mem_singleton.1 hx
          exact ⟨hs, hrn, hls⟩)
      have A1 : F.length + 1 ≤ maxLen := by have := hFk.out; unfold maxLen; omega
      have A2 : (F.length + 1) * 64 ≤ 140737488355328 := by have := hFk.out; omega
      have hbw := hD.out.size
      have hvl : Hid (∀ j, (Value.slice va F.length vc).ownBlock = some j → w.heap.size ≤ j ∧ j < wr.heap.size) := Lib.hid hO.out.lt
      have A3 : w.heap.size ≤ (wr.alloc (.cells #[.string r.1.nm, .slice q r.1.args.length e, .slice lp r.2.length lc] 27)).heap.size := by simp; omega
      have MM : Hid (∀ x, x ∈ (F ++ [(r, Value.slice q r.1.args.length e, Value.slice lp r.2.length lc)]).map (·.1) ↔ x ∈ l) := Lib.hid (fun x => by
        have h1 := rot_mem (l := l) (d := d) (by rw [HN.out]; omega) x
        rw [HN.out] at h1
        rw [List.map_append, hF.out, List.mem_append, h1]
        simp only [List.map_cons, List.map_nil, List.mem_singleton]
        exact ⟨fun h => by rcases h with h | rfl; exact h; exact List.mem_of_getElem? hr, Or.inl⟩)
      clear hs hls hrn hr
      have KM : Hid (∀ w8, Below w.heap.size w w8 → ∀ v8, w8.ownsRow w.heap.size KR.ty 3 v8 (F.length + 1) (KR.flat F ++ [.string r.1.nm, .slice q r.1.args.length e, .slice lp r.2.length lc]) → RIn (· < w8.heap.size) w8 ((F ++ [(r, Value.slice q r.1.args.length e, Value.slice lp r.2.length lc)]).map (·.1)) v8) := Lib.hid (fun w8 D8 v8 h => row_mix (by rw [flat_app, flat_one, List.length_append, List.length_singleton]; exact h) D8.size (fun x hx => KR.keep (hI8.out x hx) fun b o hb => D8.cell (p := ⟨b, o, none⟩) hb))
      have LM : Hid (((F ++ [(r, Value.slice q r.1.args.length e, Value.slice lp r.2.length lc)]).map (·.1)).length = F.length + 1) := Lib.hid (by simp)
      generalize hMM : (F ++ [(r, Value.slice q r.1.args.length e, Value.slice lp r.2.length lc)]).map (·.1) = M at *
      have TC := Lib.hid (turn_codes (l := l) (m := M) (by rw [HN.out]; omega) (by rw [LM.out]; have := hFk.out; omega) MM.out)
      clear hMM hI8 HR
      have B1 : (0 : Int) ≤ (d : Int) % k := Int.emod_nonneg _ (by omega)
      have B2 : (d : Int) % k < k := Int.emod_lt_of_pos _ (by omega)
      generalize hjj : d % k = j at *
      go_wp2_with (at_builtin; go_must (refine wpList_append_lies _ rfl _ _ 37 rfl w.heap.size 27 i0 (.agg #[.string ⟨#[]⟩, .slice none 0 0, .slice none 0 0]) 3 64 Tryz.underlying37 hi hz0 hz1 hz2 rfl (by decide) (.slice va F.length vc) F.length (KR.flat F) rfl (hO.out.alloc _) ⟨wr.heap.size, 0, none⟩ 1 1 [.string r.1.nm, .slice q r.1.args.length e, .slice lp r.2.length lc] rfl rfl (newsK _ _ _ _ _) (one_R _ _ _ _ _ _ _) (by decide) A1 A2 A3 (wr.heap.size + 1) (by simp) ?_; intro g cap w8 hown hgrow hat hlt8; have O8 := Lib.hid hown; have D8 := Lib.hid ((hD.out.alloc (by exact hD.out.size) (.cells #[.string r.1.nm, .slice q r.1.args.length e, .slice lp r.2.length lc] 27)).grown hgrow (by have := hD.out.size; simp; omega) (fun j hj => by have := (hvl.out j hj).1; omega)); clear hown hgrow hat))
      have IM := Lib.hid (KM.out w8 D8.out _ O8.out)
      have RA := Lib.hid (RL.out w8 D8.out)
      clear KM O8 c1 c2 c3 hI hF hO RL
      generalize r.1.nm = rn at *
      generalize r.1.args.length = ra at *
      generalize r.2.length = rl at *
      have TS := Lib.hid (fun x y hx hy => turn_same (x := x) (y := y) MM.out TC.out hx hy)
      have TE := Lib.hid (fun R c h => turn_eq (R := R) (c := c) MM.out TC.out h)
      generalize hcl : codeL l = c1 at *
      clear hcl
      go_wp2_with fail
      refine RA.out.mono ?_
      rintro e w9 ⟨x, vx, rfl, hx, ix, k9⟩
      have D9 := Lib.hid (next0 D8.out k9)
      have IM9 := Lib.hid ((IM.out.keep (w' := w9) fun b o hb => k9.cell (p := ⟨b, o, none⟩) hb).wide (ok' := (· < w9.heap.size)) fun b hb => Nat.lt_of_lt_of_le hb k9.size)
      have RM := Lib.hid (NosH.rules_any M w9.heap.size w9 _ (HW.out.below D9.out HW.out.1) (Nat.le_refl _) IM9.out)
      unfold RlR at RM
      have IX := Lib.hid (ix.wide (ok' := (· < w9.heap.size)) fun b hb => hb.2)
      obtain ⟨px, ex, rfl⟩ := ix.form
      clear ix RA IM k9
      generalize hcm : codeL M = c2 at *
      clear hcm
      go_wp2_with fail
      refine RM.out.mono ?_
      rintro e w10 ⟨y, vy, rfl, hy, iy, k10⟩
      obtain rfl := TS.out x y hx hy
      have D10 := Lib.hid (next0 D9.out k10)
      have IM10 := Lib.hid ((IM9.out.keep (w' := w10) fun b o hb => k10.cell (p := ⟨b, o, none⟩) hb).wide (ok' := (· < w10.heap.size)) fun b hb => Nat.lt_of_lt_of_le hb k10.size)
      have IX10 := Lib.hid ((IX.out.keep (w' := w10) fun b o hb => k10.cell (p := ⟨b, o, none⟩) hb).wide (ok' := (· < w10.heap.size)) fun b hb => Nat.lt_of_lt_of_le hb k10.size)
      have IY10 := Lib.hid (iy.wide (ok' := (· < w10.heap.size)) fun b hb => hb.2)
      have IL10 := Lib.hid ((HL.out.keep (w' := w10) fun b o hb => D10.out.cell (p := ⟨b, o, none⟩) hb).wide (ok' := (· < w10.heap.size)) fun b hb => Nat.lt_of_lt_of_le hb D10.out.size)
      have QE := Lib.hid (equal_any l M w10.heap.size w10 _ _ (HW.out.below D10.out HW.out.1) (Nat.le_refl _) IL10.out IM10.out)
      unfold EqR at QE
      have PR := Lib.hid (fun w' (k : Below w10.heap.size w10 w') => NolC.rules_of x x true (by simp) w10.heap.size w' _ _ k.size (IX10.out.keep fun b o hb => k.cell (p := ⟨b, o, none⟩) hb) (IY10.out.keep fun b o hb => k.cell (p := ⟨b, o, none⟩) hb))
      obtain ⟨py, ey, rfl⟩ := iy.form
      clear iy hx hy TS IM9 IM10 IX IX10 IY10 IL10 RM k10 HL
      generalize x.length = nx at *
      by_cases hc1 : c1 = 0
      · obtain rfl := TC.out.2 hc1
        subst hc1
        go_wp2_with fail
        refine QE.out.mono ?_
        rintro e w11 ⟨R, c3, rfl, hE, k11⟩
        obtain ⟨rfl, rfl⟩ := (TE.out _ _ hE).1 (by first | rfl | trivial)
        have P11 := Lib.hid (PR.out w11 k11)
        have D11 := Lib.hid (next0 D10.out k11)
        clear hE k11 QE PR
        go_wp2_with fail
        refine P11.out.mono ?_
        rintro e w12 ⟨rfl, g12⟩
        have D12 := Lib.hid (next0 D11.out g12.1)
        clear g12
        go_wp2_with fail
        refine (CA.out _ D12.out).mono ?_
        rintro e w13 ⟨rfl, k13⟩
        have D13 := Lib.hid (next0 D12.out k13)
        clear k13
        go_wp2_with fail
        go_ret
        exact ⟨rfl, D13.out⟩
      · have hc2 : c2 ≠ 0 := fun e => hc1 (TC.out.1 e)
        have hb1 : (c1 == 0) = false := by simpa using hc1
        have hb2 : (c2 == 0) = false := by simpa using hc2
        have TE1 := Lib.hid (fun R c h => (TE.out R c h).2 hc1)
        clear TE TC hc1 hc2
        go_wp2_with fail
        refine QE.out.mono ?_
        rintro e w11 ⟨R, c3, rfl, hE, k11⟩
        obtain ⟨rfl, rfl⟩ := TE1.out _ _ hE
        have P11 := Lib.hid (PR.out w11 k11)
        have D11 := Lib.hid (next0 D10.out k11)
        clear hE k11 QE PR TE1
        go_wp2_with fail
        refine P11.out.mono ?_
        rintro e w12 ⟨rfl, g12⟩
        have D12 := Lib.hid (next0 D11.out g12.1)
        clear g12
        go_wp2_with fail
        refine (CA.out _ D12.out).mono ?_
        rintro e w13 ⟨rfl, k13⟩
        have D13 := Lib.hid (next0 D12.out k13)
        clear k13
        go_wp2_with fail
        go_ret
        exact ⟨rfl, D13.out⟩
end NolE
end Go.Proofs.YtikkaiiinkeobaaGreatDoor
