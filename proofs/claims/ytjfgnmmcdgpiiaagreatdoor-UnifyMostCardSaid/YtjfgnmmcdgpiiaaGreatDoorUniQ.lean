/- The code's Match. Conditions: the substitution's terms and the ground term have at most a million parts. -/
import Derived.Test.YtjfgnmmcdgpiiaaGreatDoorUniP
import Derived.Deep.RegionLaw
namespace Go.Proofs.YtjfgnmmcdgpiiaaGreatDoor
open Go Go.RowKit
namespace UniQ
open LexM TermM TermI Kit TermN TermU TermH UniK UniM UniA UniC UniD UniE UniG UniJ UniO UniL UniP
set_option maxRecDepth 100000 in
set_option maxHeartbeats 6400000 in
theorem match_any (p t : Tm) (s : List Bd) (hz : sizeT t ≤ 1000000) (hsz : ∀ y ∈ s, sizeT y.2 ≤ 1000000) (B : Nat) (w : World) (sv pv tv : Value) (hB : B ≤ w.heap.size) (hs : SIn (· < B) w s sv) (hp : SlIn (· < B) w p.args pv) (ht : SlIn (· < B) w t.args tv) (hpn : p.nm.size ≤ maxLen) (htn : t.nm.size ≤ maxLen) :
    Calls Tryz.prog 26 #[.agg #[.string p.nm, pv], .agg #[.string t.nm, tv], sv] w (MtR (matchP p t s) w) := by
  obtain ⟨i0, hi, hz0, hz1, hz2⟩ := info_parts infoB
  obtain ⟨p1, c1, rfl⟩ := hp.form
  obtain ⟨p2, c2, rfl⟩ := ht.form
  obtain ⟨W2, hW2⟩ : ∃ W2, W2 = (w.alloc (.cells #[.string p.nm, .slice p1 p.args.length c1] 27)).alloc (.cells #[.string t.nm, .slice p2 t.args.length c2] 27) := ⟨_, rfl⟩
  have G2 : Gr w W2 := by rw [hW2]; exact (Gr.alloc _ _).more _
  have H2 : Hid (Has W2 w.heap.size #[.string p.nm, .slice p1 p.args.length c1]) := Lib.hid (by rw [hW2]; exact (Has.new w _ _).alloc _)
  have T2 : Hid (Has W2 (w.heap.size + 1) #[.string t.nm, .slice p2 t.args.length c2]) := Lib.hid (by rw [hW2]; exact Has.new1 w _ _ _)
  have CV := Lib.hid (fun w' (k : Below w.heap.size w w') => cvalid_any s B w' sv (Nat.le_trans hB k.size) (hs.deep k hB))
  have CE := Lib.hid (fun (hv : vldS s = true) w' (k : Below w.heap.size w w') => ext_any p t s (vld_srt hv).1 (vld_srt hv).2 B w' sv _ _ (Nat.le_trans hB k.size) (hs.deep k hB) (hp.deep k hB) (ht.deep k hB) hpn htn)
  have CG := Lib.hid (fun w' (k : Below w.heap.size w w') => ground_any t B w' _ (Nat.le_trans hB k.size) htn (ht.deep k hB) hz)
  rw [ground_eq] at CG
  have MP : Hid (matchP p t s = if vldS s && validT true 4 t then extP true p t s else none) := Lib.hid rfl
  have KS := Lib.hid (fun s' (e : extP true p t s = some s') => ext_all (P := fun y => sizeT y.2 ≤ 1000000) (Q := fun t => sizeT t ≤ 1000000) (fun n l h x hx => by have := size_mem hx; simp only [sizeT] at h; omega) (fun v t _ h => h) true p t s s' e hsz hz)
  have KP := Lib.hid (fun (hv : vldS s = true) s' (e : extP true p t s = some s') => (ext_keeps true p t s s' (vld_srt hv).1 e).2.2.2 rfl (vld_srt hv).2)
  have GG := Lib.hid G2
  clear hs hp ht hpn htn hz hsz G2
  obtain ⟨vb, hvb⟩ : ∃ vb, vldS s = vb := ⟨_, rfl⟩
  rw [hvb] at CV MP CE KP
  generalize validT true 4 t = gb at *
  generalize p.nm = pn at *
  generalize p.args.length = pa at *
  generalize t.nm = tn at *
  generalize t.args.length = ta at *
  clear hvb
  obtain ⟨y1, y2, y3, y4, y5⟩ := H2.out.two
  unfold BndR at CE
  cases vb
  · clear CE CG KS KP
    go_enter Tryz.func26, Tryz.ntmps26
    go_upto_region 1 with fail
    rw [← hW2]
    clear hW2
    go_wp2_with fail
    refine (CV.out _ GG.out.1).mono ?_
    rintro e w3 ⟨rfl, g3⟩
    have D3 := Lib.hid (next0 GG.out.1 g3.1)
    go_wp2_with fail
    refine bodyPost_ret (v := .tuple #[.slice none 0 0, .bool false]) (by simp [results, Tryz.results26, go_sem]) rfl ?_
    unfold MtR
    exact ⟨_, false, rfl, (fun h => by cases h), (fun _ => ⟨by rw [MP.out]; simp, rfl⟩), D3.out⟩
  · go_enter Tryz.func26, Tryz.ntmps26
    go_upto_region 1 with fail
    rw [← hW2]
    clear hW2
    go_wp2_with fail
    refine (CV.out _ GG.out.1).mono ?_
    rintro e w3 ⟨rfl, g3⟩
    have D3 := Lib.hid (next0 GG.out.1 g3.1)
    have T3 := Lib.hid (T2.out.step0 g3.1)
    have H3 := Lib.hid (H2.out.step0 g3.1)
    clear y1 y2 y3 y4 y5 g3 T2 H2 CV
    obtain ⟨y1, y2, y3, y4, y5⟩ := H3.out.two
    obtain ⟨z1, z2, z3, z4, z5⟩ := T3.out.two
    go_wp2_with fail
    refine (CE.out trivial _ D3.out).mono ?_
    rintro e w4 ⟨v4, f, rfl, h1, h2, hb4⟩
    have D4 := Lib.hid (next0 D3.out hb4)
    have T4 := Lib.hid (T3.out.step0 hb4)
    clear y1 y2 y3 y4 y5 z1 z2 z3 z4 z5 hb4 T3 H3
    obtain ⟨z1, z2, z3, z4, z5⟩ := T4.out.two
    cases f
    · have E0 := Lib.hid (h2 rfl)
      clear h1 h2 KS KP
      go_wp2_with fail
      refine bodyPost_ret (v := .tuple #[.slice none 0 0, .bool false]) (by simp [results, Tryz.results26, go_sem]) rfl ?_
      unfold MtR
      exact ⟨_, false, rfl, (fun h => by cases h), (fun _ => ⟨by rw [MP.out, E0.out]; simp, rfl⟩), D4.out⟩
    · obtain ⟨s9, he, hI⟩ := h1 rfl
      have E9 := Lib.hid he
      have I9 := Lib.hid hI
      clear h1 h2 he hI
      go_wp2_with fail
      refine (CG.out _ D4.out).mono ?_
      rintro e w5 ⟨rfl, hb5⟩
      have D5 := Lib.hid (next0 D4.out hb5)
      cases gb
      · go_wp2_with fail
        refine bodyPost_ret (v := .tuple #[.slice none 0 0, .bool false]) (by simp [results, Tryz.results26, go_sem]) rfl ?_
        unfold MtR
        exact ⟨_, false, rfl, (fun h => by cases h), (fun _ => ⟨by rw [MP.out]; simp, rfl⟩), D5.out⟩
      · have EO : Hid (matchP p t s = some s9) := Lib.hid (by rw [MP.out, E9.out]; simp)
        have SZ := Lib.hid (KS.out s9 E9.out)
        have hm64 := KP.out trivial s9 E9.out
        obtain ⟨p9, c9, rfl, hc9, hm9, hR⟩ := SIn.row ((I9.out.deep hb5 (Nat.le_refl _)).wide (ok' := (· < w5.heap.size)) fun b hb => Nat.lt_of_lt_of_le hb hb5.size)
        have HR := Lib.hid hR
        clear hR hb5 CG CE MP KS KP T4 z1 z2 z3 z4 z5 E9
        generalize hsl : s9.length = m at *
        have HSL := Lib.hid hsl
        clear hsl
        obtain ⟨wm, M, O, G⟩ := run_make_full (P := Tryz.prog) w5 w5.heap.size 22 52 i0 _ 3 Tryz.underlying22 hi hz0 hz1 .i64 .i64 m (by rw [hz2]; omega) (by unfold maxLen; omega) (Nat.le_refl _)
        have O0 : Hid (wm.ownsRow w5.heap.size 52 3 (.slice (some ⟨w5.heap.size, 0, none⟩) m m) m (KB.flat [] ++ restB m)) := Lib.hid (by rw [madeb_rest] at O; exact O)
        have Bm := Lib.hid ((Below.refl w5.heap.size w5).grown G (Nat.le_refl _) (fun k h => by cases h))
        clear O G
        have CL := Lib.hid (fun (x : Bd) (hx : x ∈ s9) (w' : World) v (hB' : w5.heap.size ≤ w'.heap.size) (h : SlIn (· < w5.heap.size) w' x.2.args v) (hn : x.2.nm.size ≤ maxLen) => clone_any x.2 w5.heap.size w' v hB' h hn (SZ.out x hx))
        go_wp2_with fail
        go_loopw [35] (fun i wr => ∃ (k : Nat) (L : List (Bd × Value)), k ≤ m ∧ i = .int .i64 k ∧ Hid (L.map (·.1) = s9.take k) ∧ Hid (wr.ownsRow w5.heap.size 52 3 (.slice (some ⟨w5.heap.size, 0, none⟩) m m) m (KB.flat L ++ restB (m - k))) ∧ Hid (∀ x ∈ L, KB.inn (fun b => w5.heap.size < b ∧ b < wr.heap.size) wr x) ∧ Hid (Below w5.heap.size w5 wr) ∧ w5.heap.size < wr.heap.size) (fun i _ => m - (intOf i).toNat)
        case atStart => exact ⟨0, [], Nat.zero_le _, rfl, Lib.hid rfl, O0, Lib.hid (fun x hx => absurd hx (List.not_mem_nil)), Bm, (World.ownsRow.lt O0.out _ rfl).2⟩
        case round =>
          obtain ⟨k, L, hk, rfl, hL, hO, hI, hD, hsz⟩ := hrel
          have hLl : L.length = k := by
            have := congrArg List.length hL.out
            rw [List.length_map, List.length_take, HSL.out] at this
            omega
          by_cases hlt : k < m
          · obtain ⟨x, b, o, q, d, hx, rfl, hb, c1', c2', c3', hs, hts, htv⟩ := (RowS.deep HR.out hD.out (Nat.le_refl _)) k (by rw [HSL.out]; exact hlt)
            have TT := Lib.hid (take_get s9 k x hx)
            obtain ⟨W6, hW6⟩ : ∃ W6, W6 = wr.alloc (.cells #[.string x.1, .string x.2.nm, .slice q x.2.args.length d] 52) := ⟨_, rfl⟩
            have K6 : Hid (Below wr.heap.size wr W6) := Lib.hid (by rw [hW6]; exact below_alloc _ _)
            have T6 : Hid (Has W6 wr.heap.size #[.string x.1, .string x.2.nm, .slice q x.2.args.length d]) := Lib.hid (by rw [hW6]; exact Has.new _ _ _)
            have CI := Lib.hid (fun w' (g : Below wr.heap.size wr w') => CL.out x (List.mem_of_getElem? hx) w' _ (Nat.le_trans hD.out.size g.size) (hs.deep g hD.out.size) hts)
            have XV := Lib.hid htv
            have t1 := T6.out.cell 0
            have t2 := T6.out.cell 1
            have t3 := T6.out.cell 2
            simp only [List.getElem?_toArray, List.getElem?_cons_zero, List.getElem?_cons_succ] at t1 t2 t3
            obtain ⟨r1, r2, r3⟩ := restb_at L (m - k) (by omega)
            rw [hLl] at r1 r2 r3
            have R1 := Lib.hid r1
            have R2 := Lib.hid r2
            have R3 := Lib.hid r3
            have HZ6 : Hid (W6.heap.size = wr.heap.size + 1) := Lib.hid (by rw [hW6]; simp)
            have RW := Lib.hid (fun (w7 : World) (h7 : Below wr.heap.size wr w7) => by
              have O7 := own_bel hO.out h7 (fun g h => by cases h; exact hsz)
              exact And.intro ((O7.cellAt (k * 3) (by omega)).trans r1) (And.intro ((O7.cellAt (k * 3 + 1) (by omega)).trans r2) (And.intro ((O7.cellAt (k * 3 + 1 + 1) (by omega)).trans r3) (And.intro (O7.frozenAt (k * 3)) (And.intro (O7.frozenAt (k * 3 + 1)) (O7.frozenAt (k * 3 + 1 + 1)))))))
            have TF : Hid (∀ w7, Below W6.heap.size W6 w7 → w7.cell? ⟨wr.heap.size, 0, none⟩ = some (.string x.1)) := Lib.hid (fun w7 h => (T6.out.step0 h).cell 0)
            clear r1 r2 r3
            have FIN : Hid (∀ (w7 : World) (q7 : Option Addr) (d7 : Nat), Below wr.heap.size wr w7 → SlIn (fun b => wr.heap.size < b ∧ b < w7.heap.size) w7 x.2.args (.slice q7 x.2.args.length d7) → x.2.nm.size ≤ maxLen →
                ∀ w8, w8 = ((w7.setCell ⟨w5.heap.size, k * 3, none⟩ (.string x.1)).setCell ⟨w5.heap.size, k * 3 + 1, none⟩ (.string x.2.nm)).setCell ⟨w5.heap.size, k * 3 + 1 + 1, none⟩ (.slice q7 x.2.args.length d7) →
                Hid ((L ++ [(x, Value.slice q7 x.2.args.length d7)]).map (·.1) = s9.take (k + 1)) ∧ Hid (w8.ownsRow w5.heap.size 52 3 (.slice (some ⟨w5.heap.size, 0, none⟩) m m) m (KB.flat (L ++ [(x, Value.slice q7 x.2.args.length d7)]) ++ restB (m - (k + 1)))) ∧ Hid (∀ y ∈ L ++ [(x, Value.slice q7 x.2.args.length d7)], KB.inn (fun b => w5.heap.size < b ∧ b < w8.heap.size) w8 y) ∧ Hid (Below w5.heap.size w5 w8) ∧ w5.heap.size < w8.heap.size) := Lib.hid (by
              rintro w7 q7 d7 h7 hs7 hn7 w8 rfl
              have O7 := own_bel hO.out h7 (fun g h => by cases h; exact hsz)
              have ST1 := O7.stored (k * 3) (.string x.1)
              have ST2 := ST1.1.stored (k * 3 + 1) (.string x.2.nm)
              have ST3 := ST2.1.stored (k * 3 + 1 + 1) (.slice q7 x.2.args.length d7)
              have NX := restb_set L x (.slice q7 x.2.args.length d7) (m - k) (by omega)
              rw [hLl] at NX
              have FAR : ∀ b o, b ≠ w5.heap.size → (((w7.setCell ⟨w5.heap.size, k * 3, none⟩ (.string x.1)).setCell ⟨w5.heap.size, k * 3 + 1, none⟩ (.string x.2.nm)).setCell ⟨w5.heap.size, k * 3 + 1 + 1, none⟩ (.slice q7 x.2.args.length d7)).cell? ⟨b, o, none⟩ = w7.cell? ⟨b, o, none⟩ := fun b o hb => by rw [cell_far hb, cell_far hb, cell_far hb]
              have z7 := h7.size
              refine ⟨Lib.hid (by rw [List.map_append, hL.out, TT.out]; rfl), Lib.hid (by have := ST3.1; rw [NX] at this; rw [show m - (k + 1) = m - k - 1 by omega]; exact this), Lib.hid (fun y hy => ?_), Lib.hid ((((next0 hD.out (h7.mono (Nat.le_refl _))).setCell (Nat.le_refl _) _).setCell (Nat.le_refl _) _).setCell (Nat.le_refl _) _), by simp only [World.setCell, Array.size_modify]; omega⟩
              rcases List.mem_append.1 hy with hy | hy
              · have := KB.keep (hI.out y hy) (w' := w7) fun b o hb => h7.cell (p := ⟨b, o, none⟩) hb.2
                have := KB.keep this (fun b o hb => FAR b o (by omega))
                exact KB.wide this fun b hb => ⟨hb.1, by simp only [World.setCell, Array.size_modify]; omega⟩
              · obtain rfl := List.mem_singleton.1 hy
                have : KB.inn (fun b => wr.heap.size < b ∧ b < w7.heap.size) w7 (x, Value.slice q7 x.2.args.length d7) := ⟨hs7, hn7, XV.out⟩
                have := KB.keep this (fun b o hb => FAR b o (by omega))
                exact KB.wide this fun b hb => ⟨by omega, by simp only [World.setCell, Array.size_modify]; omega⟩)
            clear hs hts htv hx
            unfold RepR at CI
            generalize x.1 = xv at *
            generalize x.2.nm = xn at *
            generalize x.2.args.length = xa at *
            go_upto_region 10 with fail
            rw [← hW6]
            clear c1' c2' c3'
            clear hW6 R1 R2 R3
            go_region_law (first
              | (go_simp; go_at_call 42; (with_reducible refine (CI.out _ (by first | exact K6.out | exact K6.out.drew | exact below_drewN K6.out _)).mono ?_); rintro e w7 ⟨q7, d7, rfl, hS7, hn7, hb7⟩; have B7 : Below W6.heap.size W6 w7 := (by first | exact hb7 | exact next0 (Below.refl _ _).drew hb7 | exact next0 (below_drewN (Below.refl _ _) _) hb7); have D7 : Hid (Below wr.heap.size wr w7) := Lib.hid (next0 K6.out B7); have S7 := Lib.hid (hS7.weaken (ok' := fun b => wr.heap.size < b ∧ b < w7.heap.size) (fun b hb => ⟨by have := HZ6.out; have h6 : W6.heap.size ≤ b := hb.1; omega, hb.2⟩)); have N7 := Lib.hid hn7; obtain ⟨a1, a2, a3, a4, a5, a6⟩ := RW.out w7 D7.out; have a7 := TF.out w7 B7; clear hS7 hn7 hb7 B7))
            all_goals
              go_wp2_with fail
              go_roundw
              case rel => exact ⟨k + 1, _, by omega, by go_num, FIN.out w7 q7 d7 D7.out S7.out N7.out _ rfl⟩
              case measure => simp [intOf]; omega
          · obtain rfl : k = m := by omega
            have HL : Hid (L.map (·.1) = s9) := Lib.hid (by rw [hL.out, ← HSL.out]; simp)
            have OW := hO.out
            rw [Nat.sub_self, show restB 0 = [] from rfl, List.append_nil] at OW
            have S4 : Hid (SIn (· < wr.heap.size) wr s9 (.slice (some ⟨w5.heap.size, 0, none⟩) k k)) := Lib.hid (by
              rw [← HL.out]
              exact (sin_own hLl OW hI.out hsz).wide fun b hb => hb.2)
            clear OW
            go_wp2_with fail
            refine bodyPost_ret (v := .tuple #[.slice (some ⟨w5.heap.size, 0, none⟩) k k, .bool true]) (by simp [results, Tryz.results26, go_sem]) rfl ?_
            unfold MtR
            exact ⟨_, true, rfl, (fun _ => ⟨s9, EO.out, S4.out⟩), (fun h => by cases h), next0 D5.out hD.out⟩
end UniQ
end Go.Proofs.YtjfgnmmcdgpiiaaGreatDoor
