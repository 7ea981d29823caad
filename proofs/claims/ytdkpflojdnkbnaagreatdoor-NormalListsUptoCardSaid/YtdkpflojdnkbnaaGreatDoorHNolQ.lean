/- The reference's Equal. No conditions. -/
import Derived.Test.YtdkpflojdnkbnaaGreatDoorHNolP
namespace Go.Proofs.YtdkpflojdnkbnaaGreatDoor
open Go Go.RowKit
namespace NolQ
open Kit LexM TermM TermI TermN TermU UniK UniM UnpP NorM NorH NosF NosV NosH NosI NolP
theorem same_next {m1 m2 : List Rl} {k : Nat} {x y : Rl} (h : m1.take k = m2.take k) (hx : m1[k]? = some x) (hy : m2[k]? = some y) (e : x = y) : m1.take (k + 1) = m2.take (k + 1) := by
  rw [take_get m1 k x hx, take_get m2 k y hy, h, e]
theorem diff_at {m1 m2 : List Rl} {k : Nat} {x y : Rl} (hx : m1[k]? = some x) (hy : m2[k]? = some y) (e : x ≠ y) : m1 ≠ m2 := fun h => by
  rw [h, hy] at hx
  exact e (Option.some.inj hx).symm
set_option maxRecDepth 100000 in
set_option maxHeartbeats 3200000 in
theorem requal_any (a b : List Rl) (B : Nat) (w : World) (av bv : Value) (hB : B ≤ w.heap.size) (ha : RIn (· < B) w a av) (hb : RIn (· < B) w b bv) :
    Calls Tryz.prog 23 #[av, bv] w (EqR a b w) := by
  obtain ⟨pa, ca, rfl⟩ := ha.form
  obtain ⟨pb, cb, rfl⟩ := hb.form
  have CA := Lib.hid (rrules_any a B w _ hB ha)
  have CB := Lib.hid (fun w' (k : Below w.heap.size w w') => rrules_any b B w' _ (Nat.le_trans hB k.size) (hb.keep fun b o hb => k.cell (p := ⟨b, o, none⟩) (Nat.lt_of_lt_of_le hb hB)))
  unfold RlR at CA CB
  have EA := Lib.hid (fun (R : Bool) (c : Int) (h : codeL a ≠ 0) (e1 : R = false) (e2 : c = codeL a) => show EqOf a b R c from ⟨fun _ => ⟨e1, e2⟩, fun e => absurd e h, fun e => absurd e h⟩)
  have EB := Lib.hid (fun (R : Bool) (c : Int) (h0 : codeL a = 0) (h : codeL b ≠ 0) (e1 : R = false) (e2 : c = codeL b) => show EqOf a b R c from ⟨fun e => absurd h0 e, fun _ _ => ⟨e1, e2⟩, fun _ e => absurd e h⟩)
  have EC := Lib.hid (fun (R : Bool) (h0 : codeL a = 0) (h : codeL b = 0) (e1 : R = true ↔ ∀ x, (∃ r ∈ a, NfOf r x) ↔ ∃ r ∈ b, NfOf r x) => show EqOf a b R 0 from ⟨fun e => absurd h0 e, fun _ e => absurd h e, fun _ _ => ⟨rfl, e1⟩⟩)
  clear ha hb
  generalize a.length = la at *
  generalize b.length = lb at *
  generalize hca : codeL a = c1 at *
  generalize hcb : codeL b = c2 at *
  have HA := Lib.hid hca
  have HBc := Lib.hid hcb
  clear hca hcb
  go_enter Tryz.func23, Tryz.ntmps23
  go_wp2_with fail
  refine CA.out.mono ?_
  rintro e w1 ⟨m1, v1, rfl, hr1, hi1, k1⟩
  obtain ⟨p1, q1, rfl⟩ := hi1.form
  have R1 := Lib.hid hr1
  have I1 := Lib.hid hi1
  have K1 := Lib.hid k1
  clear hr1 hi1 k1 CA
  by_cases hc1 : c1 = 0
  · subst hc1
    go_wp2_with fail
    refine (CB.out w1 K1.out).mono ?_
    rintro e w2 ⟨m2, v2, rfl, hr2, hi2, k2⟩
    obtain ⟨p2, q2, rfl⟩ := hi2.form
    have R2 := Lib.hid hr2
    have K2 := Lib.hid (next0 K1.out k2)
    have I2 := Lib.hid (hi2.wide (ok' := (· < w2.heap.size)) fun b hb => hb.2)
    have I12 := Lib.hid ((I1.out.keep (w' := w2) fun b o hb => k2.cell (p := ⟨b, o, none⟩) hb.2).wide (ok' := (· < w2.heap.size)) fun b hb => Nat.lt_of_lt_of_le hb.2 k2.size)
    clear hr2 hi2 k2 CB I1
    by_cases hc2 : c2 = 0
    · subst hc2
      have EE : Hid (∀ R : Bool, (R = true ↔ m1 = m2) → EqOf a b R 0) := Lib.hid (fun R hR => EC.out R (by first | rfl | trivial) (by first | rfl | trivial) (hR.trans (eq_both R1.out R2.out HA.out HBc.out)))
      have HR1 := Lib.hid (fun w' (k : Below w2.heap.size w2 w') => show RowR w2.heap.size w' m1 p1 from by
        obtain ⟨p', c', e, _, _, h⟩ := NorH.RIn.row (I12.out.keep (w' := w') fun b o hb => k.cell (p := ⟨b, o, none⟩) hb)
        injection e with e _ _
        rw [e]; exact h)
      have HR2 := Lib.hid (fun w' (k : Below w2.heap.size w2 w') => show RowR w2.heap.size w' m2 p2 from by
        obtain ⟨p', c', e, _, _, h⟩ := NorH.RIn.row (I2.out.keep (w' := w') fun b o hb => k.cell (p := ⟨b, o, none⟩) hb)
        injection e with e _ _
        rw [e]; exact h)
      have hl1 : m1.length ≤ maxLen := by obtain ⟨p', c', e, h1, h2, _⟩ := NorH.RIn.row I12.out; omega
      have EN := Lib.hid (fun (h : m1.length ≠ m2.length) => EE.out false ⟨fun e => Bool.noConfusion e, fun e => absurd (congrArg List.length e) h⟩)
      clear I12 I2 EA EB EC
      generalize hn1 : m1.length = n1 at *
      generalize hn2 : m2.length = n2 at *
      have HN1 := Lib.hid hn1
      have HN2 := Lib.hid hn2
      clear hn1 hn2
      by_cases hnn : n1 = n2
      · subst hnn
        clear EN
        unfold maxLen at hl1
        go_wp2_with fail
        go_loopw [10] (fun i wr => ∃ k : Nat, k ≤ n1 ∧ i = .int .i64 k ∧ Hid (m1.take k = m2.take k) ∧ Hid (Below w2.heap.size w2 wr)) (fun i _ => n1 - (intOf i).toNat)
        case atStart => exact ⟨0, Nat.zero_le _, rfl, Lib.hid rfl, Lib.hid (Below.refl _ _)⟩
        case round =>
          obtain ⟨k, hk, rfl, hT, hD⟩ := hrel
          by_cases hlt : k < n1
          · obtain ⟨x, g, o, q, d, lp, lc, hx, rfl, hgb, c1, c2, c3, hs, hrn, hls⟩ := (HR1.out wr hD.out) k (by rw [HN1.out]; exact hlt)
            obtain ⟨y, g', o', q', d', lp', lc', hy, rfl, hgb', c1', c2', c3', hs', hrn', hls'⟩ := (HR2.out wr hD.out) k (by rw [HN2.out]; exact hlt)
            have hgl := hgb
            have hgl' := hgb'
            have Hb : Hid (∀ w', Below wr.heap.size wr w' → w'.cell? ⟨g, o + k * 3, none⟩ = some (.string x.1.nm) ∧ w'.cell? ⟨g, o + k * 3 + 1, none⟩ = some (.slice q x.1.args.length d) ∧ w'.cell? ⟨g, o + k * 3 + 1 + 1, none⟩ = some (.slice lp x.2.length lc) ∧ w'.cell? ⟨g', o' + k * 3, none⟩ = some (.string y.1.nm) ∧ w'.cell? ⟨g', o' + k * 3 + 1, none⟩ = some (.slice q' y.1.args.length d') ∧ w'.cell? ⟨g', o' + k * 3 + 1 + 1, none⟩ = some (.slice lp' y.2.length lc')) := Lib.hid (fun w' h => by
              have hg : g < wr.heap.size := Nat.lt_of_lt_of_le hgb hD.out.size
              have hg' : g' < wr.heap.size := Nat.lt_of_lt_of_le hgb' hD.out.size
              exact ⟨(h.cell (p := ⟨g, _, none⟩) hg).trans c1, (h.cell (p := ⟨g, _, none⟩) hg).trans c2, (h.cell (p := ⟨g, _, none⟩) hg).trans c3, (h.cell (p := ⟨g', _, none⟩) hg').trans c1', (h.cell (p := ⟨g', _, none⟩) hg').trans c2', (h.cell (p := ⟨g', _, none⟩) hg').trans c3'⟩)
            have KK := Lib.hid (fun w' (h : Below wr.heap.size wr w') => show Calls Tryz.prog 13 #[.agg #[.string x.1.nm, .slice q x.1.args.length d, .slice lp x.2.length lc], .agg #[.string y.1.nm, .slice q' y.1.args.length d', .slice lp' y.2.length lc']] w' (fun e w'' => e = .returned (.int .i64 (cmpR x y)) ∧ Gr w' w'') from
              NorG.rcmpr_any x.1 y.1 x.2 y.2 w2.heap.size w' _ _ _ _ (Nat.le_trans hD.out.size h.size) (hs.frame fun b o hb => h.cell (p := ⟨b, o, none⟩) (Nat.lt_of_lt_of_le hb hD.out.size)) (hs'.frame fun b o hb => h.cell (p := ⟨b, o, none⟩) (Nat.lt_of_lt_of_le hb hD.out.size)) hrn hrn' (hls.keep fun b o hb => h.cell (p := ⟨b, o, none⟩) (Nat.lt_of_lt_of_le hb hD.out.size)) (hls'.keep fun b o hb => h.cell (p := ⟨b, o, none⟩) (Nat.lt_of_lt_of_le hb hD.out.size)))
            have TN := Lib.hid (fun (e : cmpR x y = 0) => same_next hT.out hx hy ((r_zero x y).1 e))
            have TD := Lib.hid (fun (e : cmpR x y ≠ 0) => EE.out false ⟨fun h => Bool.noConfusion h, fun h => absurd h (diff_at hx hy (fun h => e ((r_zero x y).2 h)))⟩)
            clear hs hls hs' hls' hrn hrn' hx hy c1 c2 c3 c1' c2' c3' hgl hgl'
            generalize cmpR x y = c at *
            generalize x.1.nm = xn at *
            generalize x.1.args.length = xa at *
            generalize x.2.length = xl at *
            generalize y.1.nm = yn at *
            generalize y.1.args.length = ya at *
            generalize y.2.length = yl at *
            go_upto_region 12 with fail
            go_cut [47] (fun s47 wx => s47 = .bool (c != 0) ∧ Hid (Below wr.heap.size wr wx))
            case first =>
              have hq0 : Hid (Below wr.heap.size wr wr.drew) := Lib.hid (Below.refl _ _).drew
              obtain ⟨x1, x2, x3, x4, x5, x6⟩ := Hb.out _ hq0.out
              go_region_held3 (fun w' => w'.cell? ⟨g, o + k * 3, none⟩ = some (.string xn) ∧ w'.cell? ⟨g, o + k * 3 + 1, none⟩ = some (.slice q xa d) ∧ w'.cell? ⟨g, o + k * 3 + 1 + 1, none⟩ = some (.slice lp xl lc) ∧ w'.cell? ⟨g', o' + k * 3, none⟩ = some (.string yn) ∧ w'.cell? ⟨g', o' + k * 3 + 1, none⟩ = some (.slice q' ya d') ∧ w'.cell? ⟨g', o' + k * 3 + 1 + 1, none⟩ = some (.slice lp' yl lc'))
                (first | (with_reducible assumption) | (with_reducible exact ⟨‹_›, ‹_›, ‹_›, ‹_›, ‹_›, ‹_›⟩) | (with_reducible refine Hb.out _ ?_; repeat (first | (with_reducible exact Hid.out (by assumption)) | (with_reducible exact Below.refl _ _) | (with_reducible refine Below.drew ?_))))
                (first | (go_at_call 13; (try go_split_ands); (with_reducible refine (KK.out _ (by repeat (first | (with_reducible exact Hid.out (by assumption)) | (with_reducible exact Below.refl _ _) | (with_reducible refine Below.drew ?_)))).mono ?_); rintro e w' ⟨rfl, q0⟩; (have qg : Below wr.heap.size wr w' := by (refine next0 ?_ q0.1; repeat (first | (with_reducible exact Hid.out (by assumption)) | (with_reducible exact Below.refl _ _) | (with_reducible refine Below.drew ?_)))); clear q0; obtain ⟨x1, x2, x3, x4, x5, x6⟩ := Hb.out _ qg))
              all_goals
                go_wp2_with fail
                go_meet
                exact ⟨rfl, Lib.hid qg⟩
            case rest =>
              obtain ⟨rfl, hQ2⟩ := hcut
              have D2 := Lib.hid (next0 hD.out hQ2.out)
              by_cases hc : c = 0
              · have T2 := Lib.hid (TN.out hc)
                have hcb : (c != 0) = false := by simp [hc]
                rw [hcb]
                clear TN TD KK Hb
                go_wp2_with fail
                go_roundw
                case rel => exact ⟨k + 1, by omega, by go_num, T2, D2⟩
                case measure => simp [intOf]; omega
              · have ED := Lib.hid (TD.out hc)
                have hcb : (c != 0) = true := by simpa using hc
                rw [hcb]
                clear TN TD KK Hb
                have K9 := Lib.hid (next0 K2.out D2.out)
                go_wp2_with fail
                refine bodyPost_ret (v := .tuple #[.bool false, .int .i64 0]) (by simp [results, Tryz.results23, go_sem]) rfl ?_
                exact ⟨false, 0, rfl, ED.out, K9.out⟩
          · obtain rfl : k = n1 := by omega
            have ED := Lib.hid (EE.out true ⟨fun _ => by
              have h := hT.out
              rw [List.take_of_length_le (by rw [HN1.out]; omega), List.take_of_length_le (by rw [HN2.out]; omega)] at h
              exact h, fun _ => rfl⟩)
            have K9 := Lib.hid (next0 K2.out hD.out)
            go_wp2_with fail
            refine bodyPost_ret (v := .tuple #[.bool true, .int .i64 0]) (by simp [results, Tryz.results23, go_sem]) rfl ?_
            exact ⟨true, 0, rfl, ED.out, K9.out⟩
      · have ED := Lib.hid (EN.out hnn)
        have hnb : ((n1 : Int) != (n2 : Int)) = true := by simp; omega
        have hnc : ¬ (n1 : Int) = n2 := by omega
        clear EN
        go_wp2_with fail
        refine bodyPost_ret (v := .tuple #[.bool false, .int .i64 0]) (by simp [results, Tryz.results23, go_sem]) rfl ?_
        exact ⟨false, 0, rfl, ED.out, K2.out⟩
    · have hcc : (c2 != 0) = true := by simpa using hc2
      have EE := Lib.hid (EB.out false c2 (by first | rfl | trivial) hc2 rfl rfl)
      clear hc2
      go_wp2_with fail
      refine bodyPost_ret (v := .tuple #[.bool false, .int .i64 c2]) (by simp [results, Tryz.results23, go_sem]) rfl ?_
      exact ⟨false, c2, rfl, EE.out, K2.out⟩
  · have hcc : (c1 != 0) = true := by simpa using hc1
    have EE := Lib.hid (EA.out false c1 hc1 rfl rfl)
    clear hc1
    go_wp2_with fail
    refine bodyPost_ret (v := .tuple #[.bool false, .int .i64 c1]) (by simp [results, Tryz.results23, go_sem]) rfl ?_
    exact ⟨false, c1, rfl, EE.out, K1.out⟩
end NolQ
end Go.Proofs.YtdkpflojdnkbnaaGreatDoor
