/- Texts laid together: UnqD. Their own heads stand before each. -/
import Derived.Test.YtdkpflojdnkbnaaGreatDoorHBA
/- ApplyRule of the code: the substitution applied to a rule. Conditions: at most a thousand literals; an ascending substitution; at most a million parts each. -/
namespace Go.Proofs.YtdkpflojdnkbnaaGreatDoor
open Go Go.RowKit
namespace UnqD
open LexM TermM TermI Kit TermN TermU UniK UniM UniA UniC UniD UniE UniF UnmH LigY UnqA UnqB
set_option maxRecDepth 100000 in
set_option maxHeartbeats 3200000 in
theorem arule_own (s : List Bd) (hS : Srt s) (hsz : Sz s) (h : Tm) (l : List Lt) (w : World) (sv hv lv : Value) (hss : SIn (· < w.heap.size) w s sv) (hs : SlIn (· < w.heap.size) w h.args hv) (hl : LIn (· < w.heap.size) w l lv) (hn : h.nm.size ≤ maxLen) (hll : l.length ≤ 1000) (hz : sizeT h ≤ 1000000) (hzl : ∀ x ∈ l, sizeT x.2 ≤ 1000000) :
    Calls Tryz.prog 37 #[sv, .agg #[.string h.nm, hv, lv]] w (RuO (fun _ => False) (appT s h) (atomsL (appT s) l) w) := by
  obtain ⟨p, c, rfl⟩ := hs.form
  obtain ⟨lp, lc, rfl⟩ := hl.form
  obtain ⟨ps, cs, hsv⟩ := hss.form
  have CB := Lib.hid (fun (w' : World) (g : Nat) (k : Below w.heap.size w w') (hg : Has w' g #[sv]) =>
    rir_own (.func (.func 111) #[] #[.pointer (some ⟨g, 0, none⟩)]) (fun _ => False) (appT s) h l w' (.slice p h.args.length c) (.slice lp l.length lc) ((hs.deep k (Nat.le_refl _)).weaken fun b hb => Nat.lt_of_lt_of_le hb k.size) ((hl.keep fun b o hb => k.cell (p := ⟨b, o, none⟩) hb).wide fun b hb => Nat.lt_of_lt_of_le hb k.size) hn hll (fun b hb => hb.elim)
      (fun t w1 q ht k1 hq hn1 => by
        have := replace_any g (leafS s) t w'.heap.size w1 q k1.size hq hn1 (by rcases ht with rfl | ⟨x, hx, rfl⟩; exact hz; exact hzl x hx) (fun w'' n k2 hn2 => replacer_any s n hn2 hS hsz w.heap.size g w'' sv (next0 (next0 k k1) k2).size (hss.deep (next0 (next0 k k1) k2) (Nat.le_refl _)) (hg.step0 (next0 k1 k2)))
        rw [rep_app] at this
        refine this.mono ?_
        rintro e w2 ⟨q2, d2, he, a1, a2, a3⟩
        exact ⟨q2, d2, he, a1.weaken fun b hb => Or.inr hb, a2, a3⟩))
  have CA := Lib.hid (fun w' => replacer_mk sv ps s.length cs hsv w')
  obtain ⟨W2, hW2⟩ : ∃ W2, W2 = (w.alloc (.cells #[.string h.nm, .slice p h.args.length c, .slice lp l.length lc] 27)).alloc (.cells #[.string ⟨#[]⟩, .slice none 0 0, .slice none 0 0] 27) := ⟨_, rfl⟩
  have B2 : Hid (Below w.heap.size w W2) := Lib.hid (by rw [hW2]; exact next0 (below_alloc _ _) (below_alloc _ _))
  have hz2w : w.heap.size + 2 ≤ W2.heap.size := by rw [hW2]; simp
  have H2 : Hid (Has W2 w.heap.size #[.string h.nm, .slice p h.args.length c, .slice lp l.length lc]) := Lib.hid (by rw [hW2]; exact (Has.new w _ _).alloc _)
  have E2 : Hid (Has W2 (w.heap.size + 1) #[.string ⟨#[]⟩, .slice none 0 0, .slice none 0 0]) := Lib.hid (by rw [hW2]; exact Has.new1 w _ _ _)
  have CB := Lib.hid (fun (w' : World) (g : Nat) (k : Below W2.heap.size W2 w') (hg : Has w' g #[sv]) => CB.out w' g (next0 B2.out k) hg)
  have HB2 := Lib.hid (fun (w' : World) (k : Below W2.heap.size W2 w') => UnpP.has3 (H2.out.step0 k))
  have HE2 := Lib.hid (fun (w' : World) (k : Below W2.heap.size W2 w') => E2.out.step0 k)
  clear hss hs hl hz hzl hn hS hsz hsv
  generalize appT s h = u at *
  generalize atomsL (appT s) l = m at *
  generalize h.nm = tn at *
  generalize h.args.length = ta at *
  generalize l.length = ln at *
  unfold RpR at CA
  unfold RuO at CB ⊢
  obtain ⟨y1, y2, y3, y4, y5, y6, y7⟩ := HB2.out W2 (Below.refl _ _)
  go_enter Tryz.func37, Tryz.ntmps37
  go_upto_region 1 with fail
  rw [← hW2]
  clear hW2
  go_region_with (first
    | (go_at_call 72; (with_reducible refine (CA.out _).mono ?_); rintro e w3 ⟨g, rfl, hH, hb⟩; have D3 : Hid (Below W2.heap.size W2 w3) := Lib.hid (by first | exact hb | exact next0 (Below.refl _ _).drew hb | exact next0 (below_drewN (Below.refl _ _) _) hb); have HG := Lib.hid hH; clear hb hH; obtain ⟨z1, z2, z3, z4, z5, z6, z7⟩ := HB2.out _ D3.out)
    | (go_at_call 73; (with_reducible refine (CB.out _ _ (by first | exact D3.out | exact D3.out.drew | exact below_drewN D3.out _) (by exact HG.out)).mono ?_); rintro e w4 ⟨q, d, v4, R, L, rfl, hR1, hR2, hS, hLm, hO, hnu, hb⟩; have D4 : Hid (Below W2.heap.size W2 w4) := Lib.hid (by first | exact next0 D3.out hb | exact next0 D3.out.drew hb | exact next0 (below_drewN D3.out _) hb); have S4 := Lib.hid (hS.weaken (ok' := fun b => W2.heap.size ≤ b ∧ b < R) (fun b hb2 => hb2.elim False.elim fun h => ⟨Nat.le_trans D3.out.size h.1, h.2⟩)); have O4 := Lib.hid hO; have HLM := Lib.hid hLm; have hR3 : W2.heap.size ≤ R := Nat.le_trans D3.out.size hR1; have NU := Lib.hid hnu; have E4 := Lib.hid (HE2.out _ D4.out); obtain ⟨mp, mc, rfl⟩ := hO.form; clear hS hO hLm hnu hb hR1; obtain ⟨e1, e2, e3, e4, e5, e6, e7⟩ := UnpP.has3 E4.out))
  all_goals
    have R6 := put3 E4.out (.string u.nm) (.slice q u.args.length d) (.slice mp L.length mc)
    obtain ⟨r1, r2, r3⟩ := UniA.three R6
    have S5 := Lib.hid (S4.out.frame (w' := ((w4.setCell ⟨w.heap.size + 1, 0, none⟩ (.string u.nm)).setCell ⟨w.heap.size + 1, 1, none⟩ (.slice q u.args.length d)).setCell ⟨w.heap.size + 1, 2, none⟩ (.slice mp L.length mc)) (fun b o hb => by
      rw [cell_far (by show b ≠ w.heap.size + 1; omega), cell_far (by show b ≠ w.heap.size + 1; omega), cell_far (by show b ≠ w.heap.size + 1; omega)]))
    have P5 : Hid (Lt (· = w.heap.size + 1) w4 (((w4.setCell ⟨w.heap.size + 1, 0, none⟩ (.string u.nm)).setCell ⟨w.heap.size + 1, 1, none⟩ (.slice q u.args.length d)).setCell ⟨w.heap.size + 1, 2, none⟩ (.slice mp L.length mc))) := Lib.hid (Lt.put (ex := (· = w.heap.size + 1)) (p := ⟨w.heap.size + 1, 2, none⟩) (Lt.put (ex := (· = w.heap.size + 1)) (p := ⟨w.heap.size + 1, 1, none⟩) (Lt.put (ex := (· = w.heap.size + 1)) (p := ⟨w.heap.size + 1, 0, none⟩) (Lt.of (Below.refl _ _)) (Or.inl rfl) _) (Or.inl rfl) _) (Or.inl rfl) _)
    have O5 := Lib.hid (O4.out.lt P5.out (fun i e => by subst e; exact ⟨by omega, fun h => h⟩))
    have hR5 := Nat.le_trans hR2 P5.out.size
    have D5 := Lib.hid ((((next0 B2.out D4.out).setCell (p := ⟨w.heap.size + 1, 0, none⟩) (by simp) (.string u.nm)).setCell (p := ⟨w.heap.size + 1, 1, none⟩) (by simp) (.slice q u.args.length d)).setCell (p := ⟨w.heap.size + 1, 2, none⟩) (by simp) (.slice mp L.length mc))
    clear R6
    go_wp2_with fail
    refine bodyPost_ret (v := .agg #[.string u.nm, .slice q u.args.length d, .slice mp L.length mc]) (by simp [results, Tryz.results37, go_sem, r1, r2, r3]) rfl ?_
    exact ⟨q, d, _, R, L, rfl, by omega, hR5, S5.out.weaken (fun b hb => Or.inr ⟨by omega, hb.2⟩), HLM.out, O5.out, NU.out, D5.out⟩
end UnqD
end Go.Proofs.YtdkpflojdnkbnaaGreatDoor
