/- The walk of NormalTwice. Conditions: the heads' keys are short where they are small; term.Text's table is laid. -/
import Derived.Test.YtikkaiiinkeobaaGreatDoorNolA
import Derived.Test.YtikkaiiinkeobaaGreatDoorNolC
import Derived.Deep.RegionHeld3
import Derived.Deep.DeepCutAuto
namespace Go.Proofs.YtikkaiiinkeobaaGreatDoor
open Go Go.RowKit
namespace NolD
open Kit LexM TermM TermI TermN TermU TermT UniK UniM UnpP LigM SmrA NorM NorS NosQ NosF NosV NosH NosI NolA
/-! ### Plain facts -/
theorem form_again {r x : Rl} (h0 : codeN r = 0) (h : NfOf r x) : codeN x = 0 ∧ NfOf x x := by
  obtain ⟨hv, h5⟩ := code_zero h0
  obtain ⟨V', h1, h2, h3⟩ := nf_twice (vsr_vars r) (Nat.le_trans h5 (by omega)) (h.1 h0)
  have hp := NorQ.vars_perm h1 (vsr_vars x)
  have hc : codeN x = 0 := by
    unfold codeN
    rw [if_pos (nf_vl h h0), if_neg (by rw [← hp.length_eq, h2]; omega)]
  exact ⟨hc, fun _ => NorQ.nf_perm hp h3, fun e => absurd hc e⟩
theorem again_same {r x y : Rl} (h0 : codeN r = 0) (h : NfOf r x) (hy : NfOf x y) : x = y := nf_det (form_again h0 h).2 hy
theorem nodup_len {α : Type} : ∀ (m L : List α), m.Nodup → (∀ x ∈ m, x ∈ L) → m.length ≤ L.length
  | [], _, _, _ => by simp
  | x :: m, L, h, hs => by
    obtain ⟨s, t, e⟩ := List.append_of_mem (hs x List.mem_cons_self)
    obtain ⟨h1, h2⟩ := List.nodup_cons.1 h
    have := nodup_len m (s ++ t) h2 fun y hy => by
      have h3 := hs y (List.mem_cons_of_mem _ hy)
      rw [e] at h3
      rcases List.mem_append.1 h3 with h3 | h3
      · exact List.mem_append_left _ h3
      · rcases List.mem_cons.1 h3 with rfl | h3
        · exact absurd hy h1
        · exact List.mem_append_right _ h3
    rw [e]
    simp only [List.length_append, List.length_cons] at this ⊢
    omega
theorem asc_nodup {m : List Rl} (h : Asc cmpR m) : m.Nodup := by
  rw [List.nodup_iff_pairwise_ne]
  exact h.imp fun {a b} h e => by
    subst e
    have := (r_zero a a).2 rfl
    omega
theorem codes_ok {l : List Rl} (h : codeL l = 0) : l.length ≤ 128 ∧ ∀ r ∈ l, codeN r = 0 := by
  unfold codeL at h
  split at h
  · cases h
  · rename_i hl
    refine ⟨by omega, ?_⟩
    have gen : ∀ l : List Rl, firstE l = 0 → ∀ r ∈ l, codeN r = 0 := by
      intro l
      induction l with
      | nil => intro _ r hr; simp at hr
      | cons a l ih =>
        intro h r hr
        unfold firstE at h
        split at h
        · rename_i h0
          rcases List.mem_cons.1 hr with rfl | hr
          · exact h0
          · exact ih h r hr
        · rename_i h0
          exact absurd h h0
    exact gen l h
theorem nf_some {r : Rl} : ∃ x, NfOf r x := by
  by_cases h : codeN r = 0
  · obtain ⟨x, hx⟩ := nf_ex (vsr_vars r).1 r
    exact ⟨x, fun _ => hx, fun e => absurd h e⟩
  · exact ⟨zeroR, fun e => absurd e h, fun _ => rfl⟩
theorem rs_len {l m : List Rl} (h : RsOf l m) : m.length ≤ l.length := by
  by_cases h0 : codeL l = 0
  · obtain ⟨h1, h2⟩ := h.1 h0
    classical
    have hex : ∀ r : Rl, ∃ x, NfOf r x := fun r => nf_some
    obtain ⟨g, hg⟩ := Classical.axiomOfChoice hex
    have := nodup_len m (l.map g) (asc_nodup h1) fun x hx => by
      obtain ⟨r, hr, hn⟩ := (h2 x).1 hx
      rw [nf_det hn (hg r)]
      exact List.mem_map_of_mem hr
    simpa using this
  · rw [h.2 h0]; simp
theorem list_code {l m : List Rl} (h0 : codeL l = 0) (h : RsOf l m) : codeL m = 0 := by
  obtain ⟨h1, h2⟩ := h.1 h0
  obtain ⟨hl, hc⟩ := codes_ok h0
  unfold codeL
  rw [if_neg (by have := rs_len h; omega)]
  refine first_ok fun x hx => ?_
  obtain ⟨r, hr, hn⟩ := (h2 x).1 hx
  exact (form_again (hc r hr) hn).1
theorem list_again {l m k : List Rl} (h0 : codeL l = 0) (h : RsOf l m) (hk : RsOf m k) : m = k := by
  obtain ⟨h1, h2⟩ := h.1 h0
  obtain ⟨hl, hc⟩ := codes_ok h0
  have hm : ∀ x ∈ m, codeN x = 0 ∧ NfOf x x := fun x hx => by
    obtain ⟨r, hr, hn⟩ := (h2 x).1 hx
    exact form_again (hc r hr) hn
  obtain ⟨k1, k2⟩ := hk.1 (list_code h0 h)
  refine asc_unique r_neg r_zero h1 k1 fun x => ⟨fun hx => (k2 x).2 ⟨x, hx, (hm x hx).2⟩, fun hx => ?_⟩
  obtain ⟨r, hr, hn⟩ := (k2 x).1 hx
  rw [nf_det hn (hm r hr).2]
  exact hr
set_option maxRecDepth 100000 in
set_option maxHeartbeats 6400000 in
theorem twice (N : Nat) (h4 : 4 ≤ N) (hN : (N + 3) * 4000000 ≤ 4611686018427387904) (l : List Rl) (w : World) (v : Value) (hw : Wd w) (hl : RIn (· < w.heap.size) w l v) (hk : ∀ x ∈ l, sizeT x.1 ≤ 20 → klen x.1 ≤ N) :
    Calls Tryz.prog 6 #[v] w fun e w' => e = .returned (.bool true) ∧ Below w.heap.size w w' := by
  have CS := Lib.hid (SmrA.rules_any N h4 hN l 12 (by decide) w _ hl hk)
  have RL := Lib.hid (fun w' (g : Below w.heap.size w w') => NosH.rules_any l w.heap.size w' _ (hw.below g hw.1) g.size (hl.keep fun b o hb => g.cell (p := ⟨b, o, none⟩) hb))
  obtain ⟨p, c, rfl, hc, hm, hR⟩ := NolC.RIn.row hl
  have hlf : l.length ≤ 9223372036854775807 := Nat.le_trans hc hm
  have CA := Lib.hid (fun w' (q : Below w.heap.size w w') => NosY.awake_any w' (hw.below q hw.1))
  have HW := Lib.hid hw
  have HR := Lib.hid (fun w' (k : Below w.heap.size w w') => show NolC.RowR w.heap.size w' l p from by
    obtain ⟨p', c', e, _, _, h⟩ := NolC.RIn.row (hl.keep (w' := w') fun b o hb => k.cell (p := ⟨b, o, none⟩) hb)
    injection e with e _ _
    rw [e]; exact h)
  unfold SmrQ at CS
  unfold RlR at RL
  generalize hnl : l.length = n at *
  have HN := Lib.hid hnl
  clear hR hl hc hm hw hnl hk h4 hN
  go_enter Tryz.func6, Tryz.ntmps6
  go_wp2_with fail
  refine CS.out.mono ?_
  rintro e w3 ⟨B, rfl, hB0, k3⟩
  have K3 := Lib.hid k3
  clear hB0 CS k3
  cases B
  · go_wp2_with fail
    refine (CA.out _ K3.out).mono ?_
    rintro e w4 ⟨rfl, k⟩
    have D := Lib.hid (next0 K3.out k)
    clear k
    go_wp2_with fail
    go_ret
    exact ⟨rfl, D.out⟩
  go_wp2_with fail
  go_loopw [3] (fun i wr => ∃ k : Nat, k ≤ n ∧ i = .int .i64 k ∧ Hid (Below w.heap.size w wr)) (fun i _ => n - (intOf i).toNat)
  case atStart => exact ⟨0, Nat.zero_le _, rfl, K3⟩
  case round =>
    clear K3
    obtain ⟨k, hk, rfl, hD⟩ := hrel
    by_cases hlt : k < n
    · clear CA RL
      obtain ⟨r, b, o, q, d, lp, lc, hr, rfl, hb, c1, c2, c3, hs, hls, hrn⟩ := (HR.out wr hD.out) k (by rw [HN.out]; exact hlt)
      have hBw := hD.out.size
      have RN := Lib.hid (rule_any r.1 r.2 w.heap.size wr _ _ hBw hs hls hrn)
      have er : (r.1, r.2) = r := rfl
      rw [er] at RN
      unfold NfR at RN
      clear hs hls hr er
      generalize r.1.nm = rn at *
      generalize r.1.args.length = ra at *
      generalize r.2.length = rl at *
      go_wp2_with fail
      refine RN.out.mono ?_
      rintro e w4 ⟨x, q4, d4, v4, rfl, hnf, hs4, hl4, hn4, k4⟩
      obtain ⟨p4, e4, rfl⟩ := hl4.form
      have D4 := Lib.hid (next0 hD.out k4)
      have NF := Lib.hid hnf
      obtain ⟨W5, hW5⟩ : ∃ z, z = w4.alloc (.cells #[.string x.1.nm, .slice q4 x.1.args.length d4, .slice p4 x.2.length e4] 27) := ⟨_, rfl⟩
      have J5 : Hid (Below w4.heap.size w4 W5) := Lib.hid (by rw [hW5]; exact below_alloc _ _)
      have H5 : Hid (Has W5 w4.heap.size #[.string x.1.nm, .slice q4 x.1.args.length d4, .slice p4 x.2.length e4]) := Lib.hid (by rw [hW5]; exact Has.new _ _ _)
      have hz5 : w4.heap.size + 1 ≤ W5.heap.size := by rw [hW5]; simp
      have D5 := Lib.hid (next0 D4.out J5.out)
      have S5 := Lib.hid (fun w' (g : Below W5.heap.size W5 w') => (hs4.frame (w' := w') fun b o hb => ((g.cell (p := ⟨b, o, none⟩) (show b < W5.heap.size from by have := hb.2; omega)).trans (J5.out.cell (p := ⟨b, o, none⟩) hb.2))).weaken (ok' := (· < w4.heap.size)) fun b hb => hb.2)
      have L5 := Lib.hid (fun w' (g : Below W5.heap.size W5 w') => (hl4.keep (w' := w') fun b o hb => ((g.cell (p := ⟨b, o, none⟩) (show b < W5.heap.size from by have := hb.2; omega)).trans (J5.out.cell (p := ⟨b, o, none⟩) hb.2))).wide (ok' := (· < w4.heap.size)) fun b hb => hb.2)
      have N4 := Lib.hid hn4
      have RX := Lib.hid (rule_any x.1 x.2 w4.heap.size W5 _ _ (by omega) (S5.out _ (Below.refl _ _)) (L5.out _ (Below.refl _ _)) hn4)
      have ex : (x.1, x.2) = x := rfl
      rw [ex] at RX
      unfold NfR at RX
      have FA := Lib.hid (fun (h0 : codeN r = 0) => form_again h0 hnf)
      have AS := Lib.hid (fun (h0 : codeN r = 0) (y : Rl) (hy : NfOf x y) => again_same h0 hnf hy)
      have EQ := Lib.hid (fun w' (g : Below W5.heap.size W5 w') sv vv (h1 : SlIn (fun b => b < w'.heap.size) w' x.1.args sv) (h2 : LIn (fun b => b < w'.heap.size) w' x.2 vv) => rule_eq x.1 x.1 x.2 x.2 true (by simp) w'.heap.size w' (.slice q4 x.1.args.length d4) sv (.slice p4 x.2.length e4) vv (Nat.le_refl _) ((S5.out w' g).weaken fun b hb => by have := g.size; omega) h1 ((L5.out w' g).wide fun b hb => by have := g.size; omega) h2)
      clear hnf hs4 hl4 hn4 k4 RN S5 L5 ex
      generalize hcr : codeN r = cr at *
      clear hcr
      by_cases hc0 : cr = 0
      · subst hc0
        obtain ⟨f1, f2⟩ := FA.out rfl
        rw [f1] at RX
        have AS0 := Lib.hid (fun (y : Rl) (hy : NfOf x y) => (AS.out rfl y hy).symm)
        clear f1 f2 FA AS
        have H5' := UnpP.has3 H5.out
        obtain ⟨y1, y2, y3, y4, y5, y6, y7⟩ := H5'
        go_upto_region 7 with fail
        rw [← hW5]
        clear hW5
        go_wp2_with fail
        refine RX.out.mono ?_
        rintro e w6 ⟨y, q6, d6, v6, rfl, hnf6, hs6, hl6, hn6, k6⟩
        obtain rfl := AS0.out y hnf6
        obtain ⟨p6, e6, rfl⟩ := hl6.form
        obtain ⟨W7, hW7⟩ : ∃ z, z = w6.alloc (.cells #[.string y.1.nm, .slice q6 y.1.args.length d6, .slice p6 y.2.length e6] 27) := ⟨_, rfl⟩
        have J7 : Hid (Below w6.heap.size w6 W7) := Lib.hid (by rw [hW7]; exact below_alloc _ _)
        have H7 : Hid (Has W7 w6.heap.size #[.string y.1.nm, .slice q6 y.1.args.length d6, .slice p6 y.2.length e6]) := Lib.hid (by rw [hW7]; exact Has.new _ _ _)
        have K7 := Lib.hid (next0 k6 J7.out)
        have D7 := Lib.hid (next0 D5.out K7.out)
        have H57 := Lib.hid ((H5.out.step0 K7.out))
        have E7 := Lib.hid (EQ.out W7 K7.out _ _ ((hs6.frame (w' := W7) fun b o hb => J7.out.cell (p := ⟨b, o, none⟩) hb.2).weaken fun b hb => Nat.lt_of_lt_of_le hb.2 J7.out.size) ((hl6.keep (w' := W7) fun b o hb => J7.out.cell (p := ⟨b, o, none⟩) hb.2).wide fun b hb => Nat.lt_of_lt_of_le hb.2 J7.out.size))
        clear hnf6 hs6 hl6 hn6 k6 EQ RX y1 y2 y3 y4 y5 y6 y7
        generalize y.1.nm = yn at *
        generalize y.1.args.length = ya at *
        generalize y.2.length = yl at *
        obtain ⟨y1, y2, y3, y4, y5, y6, y7⟩ := UnpP.has3 H57.out
        obtain ⟨z1, z2, z3, z4, z5, z6, z7⟩ := UnpP.has3 H7.out
        go_upto_region 9 with fail
        rw [← hW7]
        clear hW7
        go_wp2_with fail
        refine E7.out.mono ?_
        rintro e w8 ⟨rfl, g8⟩
        have D8 := Lib.hid (next0 D7.out g8.1)
        clear g8
        go_wp2_with fail
        go_roundw
        case rel => exact ⟨k + 1, by omega, by go_num, D8⟩
        case measure => simp [intOf]; omega
      · have hcb : (cr != 0) = true := by simpa using hc0
        go_upto_region 7 with fail
        rw [← hW5]
        clear hW5
        go_wp2_with fail
        go_roundw
        case rel => exact ⟨k + 1, by omega, by go_num, D5⟩
        case measure => simp [intOf]; omega
    · obtain rfl : k = n := by omega
      clear HR
      have RA := Lib.hid (RL.out wr hD.out)
      clear RL
      generalize hcl : codeL l = c1 at *
      have HCL := Lib.hid hcl
      clear hcl
      go_wp2_with fail
      refine RA.out.mono ?_
      rintro e w6 ⟨m, v6, rfl, hrs, hi6, k6⟩
      obtain ⟨p6, e6, rfl⟩ := hi6.form
      have K6 := Lib.hid (next0 hD.out k6)
      have I6 := Lib.hid (hi6.wide (ok' := (· < w6.heap.size)) fun b hb => hb.2)
      have RS := Lib.hid hrs
      clear hi6 k6 RA hrs
      by_cases hc1 : c1 = 0
      · subst hc1
        have RM := Lib.hid (NosH.rules_any m w6.heap.size w6 _ (HW.out.below K6.out HW.out.1) (Nat.le_refl _) I6.out)
        unfold RlR at RM
        have LA := Lib.hid (fun k (hk : RsOf m k) => list_again HCL.out RS.out hk)
        have hcm := list_code HCL.out RS.out
        rw [hcm] at RM
        clear hcm
        generalize hml : m.length = ml at *
        go_wp2_with fail
        refine RM.out.mono ?_
        rintro e w7 ⟨m7, v7, rfl, hrs7, hi7, k7⟩
        obtain rfl := LA.out m7 hrs7
        have K7 := Lib.hid (next0 K6.out k7)
        have EQ := Lib.hid (NolC.rules_of m m true (by simp) w7.heap.size w7 _ _ (Nat.le_refl _) ((I6.out.keep (w' := w7) fun b o hb => k7.cell (p := ⟨b, o, none⟩) hb).wide fun b hb => Nat.lt_of_lt_of_le hb k7.size) (hi7.wide fun b hb => hb.2))
        obtain ⟨p7, e7, rfl⟩ := hi7.form
        clear hrs7 hi7 k7 RM LA I6
        rw [hml] at EQ
        simp only [hml] at *
        go_wp2_with fail
        refine EQ.out.mono ?_
        rintro e w8 ⟨rfl, g8⟩
        have K8 := Lib.hid (next0 K7.out g8.1)
        clear g8
        go_wp2_with fail
        refine (CA.out _ K8.out).mono ?_
        rintro e w9 ⟨rfl, k9⟩
        have K9 := Lib.hid (next0 K8.out k9)
        clear k9
        go_wp2_with fail
        go_ret
        exact ⟨rfl, K9.out⟩
      · have hcb : (c1 != 0) = true := by simpa using hc1
        obtain rfl := RS.out.2 (by rw [HCL.out]; exact hc1)
        simp only [List.length_nil] at *
        go_wp2_with fail
        refine (CA.out _ K6.out).mono ?_
        rintro e w9 ⟨rfl, k9⟩
        have K9 := Lib.hid (next0 K6.out k9)
        clear k9
        go_wp2_with fail
        go_ret
        exact ⟨rfl, K9.out⟩
end NolD
end Go.Proofs.YtikkaiiinkeobaaGreatDoor
