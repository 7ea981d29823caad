/- Texts laid together: UniQ; UnmF; UnmG; UniF; UnmH; UnqB. Their own heads stand before each. -/
import Derived.Test.YtjfgnmmcdgpiiaaGreatDoorUniP
import Derived.Deep.RegionLaw
import Derived.Test.YtjfgnmmcdgpiiaaGreatDoorGA1
import Derived.Test.YtjfgnmmcdgpiiaaGreatDoorUniR
import Derived.Test.YtjfgnmmcdgpiiaaGreatDoorTermH
import Derived.Test.YtjfgnmmcdgpiiaaGreatDoorShelf
import Derived.Test.YtjfgnmmcdgpiiaaGreatDoorUniE
import Derived.OwnWalk
import Derived.Laws.OwnMore
import Derived.Deep.DeepCutAuto
import Derived.Deep.RegionWith
import Derived.Test.YtjfgnmmcdgpiiaaGreatDoorLigU
import Derived.Deep.RegionHeld3
/- The code's Match. Conditions: the substitution's terms and the ground term have at most a million parts. -/
namespace Go.Proofs.YtjfgnmmcdgpiiaaGreatDoor
open Go Go.RowKit
namespace UniQ
open LexM TermM TermI Kit TermN TermU TermH UniK UniM UniA UniC UniD UniE UniG UniJ UniO UniL UniP
set_option maxRecDepth 100000 in
set_option maxHeartbeats 6400000 in
theorem match_any (p t : Tm) (s : List Bd) (hz : sizeT t ≤ 1000000) (hsz : ∀ y ∈ s, sizeT y.2 ≤ 1000000) (B : Nat) (w : World) (sv pv tv : Value) (hB : B ≤ w.heap.size) (hs : SIn (· < B) w s sv) (hp : SlIn (· < B) w p.args pv) (ht : SlIn (· < B) w t.args tv) (hpn : p.nm.size ≤ maxLen) (htn : t.nm.size ≤ maxLen) :
    Calls Tryz.prog 26 #[.agg #[.string p.nm, pv], .agg #[.string t.nm, tv], sv] w (MtR (matchP p t s) w) := by
  obtain ⟨i0, hi, hz0, hz1, hz2⟩ := info_parts infoB
  obtain ⟨p1, c1, rfl⟩ := hp.form
  obtain ⟨p2, c2, rfl⟩ := ht.form
  obtain ⟨W2, hW2⟩ : ∃ W2, W2 = (w.alloc (.cells #[.string p.nm, .slice p1 p.args.length c1] 27)).alloc (.cells #[.string t.nm, .slice p2 t.args.length c2] 27) := ⟨_, rfl⟩
  have G2 : Gr w W2 := by rw [hW2]; exact (Gr.alloc _ _).more _
  have H2 : Hid (Has W2 w.heap.size #[.string p.nm, .slice p1 p.args.length c1]) := Lib.hid (by rw [hW2]; exact (Has.new w _ _).alloc _)
  have T2 : Hid (Has W2 (w.heap.size + 1) #[.string t.nm, .slice p2 t.args.length c2]) := Lib.hid (by rw [hW2]; exact Has.new1 w _ _ _)
  have CV := Lib.hid (fun w' (k : Below w.heap.size w w') => cvalid_any s B w' sv (Nat.le_trans hB k.size) (hs.deep k hB))
  have CE := Lib.hid (fun (hv : vldS s = true) w' (k : Below w.heap.size w w') => ext_any p t s (vld_srt hv).1 (vld_srt hv).2 B w' sv _ _ (Nat.le_trans hB k.size) (hs.deep k hB) (hp.deep k hB) (ht.deep k hB) hpn htn)
  have CG := Lib.hid (fun w' (k : Below w.heap.size w w') => ground_any t B w' _ (Nat.le_trans hB k.size) htn (ht.deep k hB) hz)
  rw [ground_eq] at CG
  have MP : Hid (matchP p t s = if vldS s && validT true 4 t then extP true p t s else none) := Lib.hid rfl
  have KS := Lib.hid (fun s' (e : extP true p t s = some s') => ext_all (P := fun y => sizeT y.2 ≤ 1000000) (Q := fun t => sizeT t ≤ 1000000) (fun n l h x hx => by have := size_mem hx; simp only [sizeT] at h; omega) (fun v t _ h => h) true p t s s' e hsz hz)
  have KP := Lib.hid (fun (hv : vldS s = true) s' (e : extP true p t s = some s') => (ext_keeps true p t s s' (vld_srt hv).1 e).2.2.2 rfl (vld_srt hv).2)
  have GG := Lib.hid G2
  clear hs hp ht hpn htn hz hsz G2
  obtain ⟨vb, hvb⟩ : ∃ vb, vldS s = vb := ⟨_, rfl⟩
  rw [hvb] at CV MP CE KP
  generalize validT true 4 t = gb at *
  generalize p.nm = pn at *
  generalize p.args.length = pa at *
  generalize t.nm = tn at *
  generalize t.args.length = ta at *
  clear hvb
  obtain ⟨y1, y2, y3, y4, y5⟩ := H2.out.two
  unfold BndR at CE
  cases vb
  · clear CE CG KS KP
    go_enter Tryz.func26, Tryz.ntmps26
    go_upto_region 1 with fail
    rw [← hW2]
    clear hW2
    go_wp2_with fail
    refine (CV.out _ GG.out.1).mono ?_
    rintro e w3 ⟨rfl, g3⟩
    have D3 := Lib.hid (next0 GG.out.1 g3.1)
    go_wp2_with fail
    refine bodyPost_ret (v := .tuple #[.slice none 0 0, .bool false]) (by simp [results, Tryz.results26, go_sem]) rfl ?_
    unfold MtR
    exact ⟨_, false, rfl, (fun h => by cases h), (fun _ => ⟨by rw [MP.out]; simp, rfl⟩), D3.out⟩
  · go_enter Tryz.func26, Tryz.ntmps26
    go_upto_region 1 with fail
    rw [← hW2]
    clear hW2
    go_wp2_with fail
    refine (CV.out _ GG.out.1).mono ?_
    rintro e w3 ⟨rfl, g3⟩
    have D3 := Lib.hid (next0 GG.out.1 g3.1)
    have T3 := Lib.hid (T2.out.step0 g3.1)
    have H3 := Lib.hid (H2.out.step0 g3.1)
    clear y1 y2 y3 y4 y5 g3 T2 H2 CV
    obtain ⟨y1, y2, y3, y4, y5⟩ := H3.out.two
    obtain ⟨z1, z2, z3, z4, z5⟩ := T3.out.two
    go_wp2_with fail
    refine (CE.out trivial _ D3.out).mono ?_
    rintro e w4 ⟨v4, f, rfl, h1, h2, hb4⟩
    have D4 := Lib.hid (next0 D3.out hb4)
    have T4 := Lib.hid (T3.out.step0 hb4)
    clear y1 y2 y3 y4 y5 z1 z2 z3 z4 z5 hb4 T3 H3
    obtain ⟨z1, z2, z3, z4, z5⟩ := T4.out.two
    cases f
    · have E0 := Lib.hid (h2 rfl)
      clear h1 h2 KS KP
      go_wp2_with fail
      refine bodyPost_ret (v := .tuple #[.slice none 0 0, .bool false]) (by simp [results, Tryz.results26, go_sem]) rfl ?_
      unfold MtR
      exact ⟨_, false, rfl, (fun h => by cases h), (fun _ => ⟨by rw [MP.out, E0.out]; simp, rfl⟩), D4.out⟩
    · obtain ⟨s9, he, hI⟩ := h1 rfl
      have E9 := Lib.hid he
      have I9 := Lib.hid hI
      clear h1 h2 he hI
      go_wp2_with fail
      refine (CG.out _ D4.out).mono ?_
      rintro e w5 ⟨rfl, hb5⟩
      have D5 := Lib.hid (next0 D4.out hb5)
      cases gb
      · go_wp2_with fail
        refine bodyPost_ret (v := .tuple #[.slice none 0 0, .bool false]) (by simp [results, Tryz.results26, go_sem]) rfl ?_
        unfold MtR
        exact ⟨_, false, rfl, (fun h => by cases h), (fun _ => ⟨by rw [MP.out]; simp, rfl⟩), D5.out⟩
      · have EO : Hid (matchP p t s = some s9) := Lib.hid (by rw [MP.out, E9.out]; simp)
        have SZ := Lib.hid (KS.out s9 E9.out)
        have hm64 := KP.out trivial s9 E9.out
        obtain ⟨p9, c9, rfl, hc9, hm9, hR⟩ := SIn.row ((I9.out.deep hb5 (Nat.le_refl _)).wide (ok' := (· < w5.heap.size)) fun b hb => Nat.lt_of_lt_of_le hb hb5.size)
        have HR := Lib.hid hR
        clear hR hb5 CG CE MP KS KP T4 z1 z2 z3 z4 z5 E9
        generalize hsl : s9.length = m at *
        have HSL := Lib.hid hsl
        clear hsl
        obtain ⟨wm, M, O, G⟩ := run_make_full (P := Tryz.prog) w5 w5.heap.size 22 52 i0 _ 3 Tryz.underlying22 hi hz0 hz1 .i64 .i64 m (by rw [hz2]; omega) (by unfold maxLen; omega) (Nat.le_refl _)
        have O0 : Hid (wm.ownsRow w5.heap.size 52 3 (.slice (some ⟨w5.heap.size, 0, none⟩) m m) m (KB.flat [] ++ restB m)) := Lib.hid (by rw [madeb_rest] at O; exact O)
        have Bm := Lib.hid ((Below.refl w5.heap.size w5).grown G (Nat.le_refl _) (fun k h => by cases h))
        clear O G
        have CL := Lib.hid (fun (x : Bd) (hx : x ∈ s9) (w' : World) v (hB' : w5.heap.size ≤ w'.heap.size) (h : SlIn (· < w5.heap.size) w' x.2.args v) (hn : x.2.nm.size ≤ maxLen) => clone_any x.2 w5.heap.size w' v hB' h hn (SZ.out x hx))
        go_wp2_with fail
        go_loopw [35] (fun i wr => ∃ (k : Nat) (L : List (Bd × Value)), k ≤ m ∧ i = .int .i64 k ∧ Hid (L.map (·.1) = s9.take k) ∧ Hid (wr.ownsRow w5.heap.size 52 3 (.slice (some ⟨w5.heap.size, 0, none⟩) m m) m (KB.flat L ++ restB (m - k))) ∧ Hid (∀ x ∈ L, KB.inn (fun b => w5.heap.size < b ∧ b < wr.heap.size) wr x) ∧ Hid (Below w5.heap.size w5 wr) ∧ w5.heap.size < wr.heap.size) (fun i _ => m - (intOf i).toNat)
        case atStart => exact ⟨0, [], Nat.zero_le _, rfl, Lib.hid rfl, O0, Lib.hid (fun x hx => absurd hx (List.not_mem_nil)), Bm, (World.ownsRow.lt O0.out _ rfl).2⟩
        case round =>
          obtain ⟨k, L, hk, rfl, hL, hO, hI, hD, hsz⟩ := hrel
          have hLl : L.length = k := by
            have := congrArg List.length hL.out
            rw [List.length_map, List.length_take, HSL.out] at this
            omega
          by_cases hlt : k < m
          · obtain ⟨x, b, o, q, d, hx, rfl, hb, c1', c2', c3', hs, hts, htv⟩ := (RowS.deep HR.out hD.out (Nat.le_refl _)) k (by rw [HSL.out]; exact hlt)
            have TT := Lib.hid (take_get s9 k x hx)
            obtain ⟨W6, hW6⟩ : ∃ W6, W6 = wr.alloc (.cells #[.string x.1, .string x.2.nm, .slice q x.2.args.length d] 52) := ⟨_, rfl⟩
            have K6 : Hid (Below wr.heap.size wr W6) := Lib.hid (by rw [hW6]; exact below_alloc _ _)
            have T6 : Hid (Has W6 wr.heap.size #[.string x.1, .string x.2.nm, .slice q x.2.args.length d]) := Lib.hid (by rw [hW6]; exact Has.new _ _ _)
            have CI := Lib.hid (fun w' (g : Below wr.heap.size wr w') => CL.out x (List.mem_of_getElem? hx) w' _ (Nat.le_trans hD.out.size g.size) (hs.deep g hD.out.size) hts)
            have XV := Lib.hid htv
            have t1 := T6.out.cell 0
            have t2 := T6.out.cell 1
            have t3 := T6.out.cell 2
            simp only [List.getElem?_toArray, List.getElem?_cons_zero, List.getElem?_cons_succ] at t1 t2 t3
            obtain ⟨r1, r2, r3⟩ := restb_at L (m - k) (by omega)
            rw [hLl] at r1 r2 r3
            have R1 := Lib.hid r1
            have R2 := Lib.hid r2
            have R3 := Lib.hid r3
            have HZ6 : Hid (W6.heap.size = wr.heap.size + 1) := Lib.hid (by rw [hW6]; simp)
            have RW := Lib.hid (fun (w7 : World) (h7 : Below wr.heap.size wr w7) => by
              have O7 := own_bel hO.out h7 (fun g h => by cases h; exact hsz)
              exact And.intro ((O7.cellAt (k * 3) (by omega)).trans r1) (And.intro ((O7.cellAt (k * 3 + 1) (by omega)).trans r2) (And.intro ((O7.cellAt (k * 3 + 1 + 1) (by omega)).trans r3) (And.intro (O7.frozenAt (k * 3)) (And.intro (O7.frozenAt (k * 3 + 1)) (O7.frozenAt (k * 3 + 1 + 1)))))))
            have TF : Hid (∀ w7, Below W6.heap.size W6 w7 → w7.cell? ⟨wr.heap.size, 0, none⟩ = some (.string x.1)) := Lib.hid (fun w7 h => (T6.out.step0 h).cell 0)
            clear r1 r2 r3
            have FIN : Hid (∀ (w7 : World) (q7 : Option Addr) (d7 : Nat), Below wr.heap.size wr w7 → SlIn (fun b => wr.heap.size < b ∧ b < w7.heap.size) w7 x.2.args (.slice q7 x.2.args.length d7) → x.2.nm.size ≤ maxLen →
                ∀ w8, w8 = ((w7.setCell ⟨w5.heap.size, k * 3, none⟩ (.string x.1)).setCell ⟨w5.heap.size, k * 3 + 1, none⟩ (.string x.2.nm)).setCell ⟨w5.heap.size, k * 3 + 1 + 1, none⟩ (.slice q7 x.2.args.length d7) →
                Hid ((L ++ [(x, Value.slice q7 x.2.args.length d7)]).map (·.1) = s9.take (k + 1)) ∧ Hid (w8.ownsRow w5.heap.size 52 3 (.slice (some ⟨w5.heap.size, 0, none⟩) m m) m (KB.flat (L ++ [(x, Value.slice q7 x.2.args.length d7)]) ++ restB (m - (k + 1)))) ∧ Hid (∀ y ∈ L ++ [(x, Value.slice q7 x.2.args.length d7)], KB.inn (fun b => w5.heap.size < b ∧ b < w8.heap.size) w8 y) ∧ Hid (Below w5.heap.size w5 w8) ∧ w5.heap.size < w8.heap.size) := Lib.hid (by
              rintro w7 q7 d7 h7 hs7 hn7 w8 rfl
              have O7 := own_bel hO.out h7 (fun g h => by cases h; exact hsz)
              have ST1 := O7.stored (k * 3) (.string x.1)
              have ST2 := ST1.1.stored (k * 3 + 1) (.string x.2.nm)
              have ST3 := ST2.1.stored (k * 3 + 1 + 1) (.slice q7 x.2.args.length d7)
              have NX := restb_set L x (.slice q7 x.2.args.length d7) (m - k) (by omega)
              rw [hLl] at NX
              have FAR : ∀ b o, b ≠ w5.heap.size → (((w7.setCell ⟨w5.heap.size, k * 3, none⟩ (.string x.1)).setCell ⟨w5.heap.size, k * 3 + 1, none⟩ (.string x.2.nm)).setCell ⟨w5.heap.size, k * 3 + 1 + 1, none⟩ (.slice q7 x.2.args.length d7)).cell? ⟨b, o, none⟩ = w7.cell? ⟨b, o, none⟩ := fun b o hb => by rw [cell_far hb, cell_far hb, cell_far hb]
              have z7 := h7.size
              refine ⟨Lib.hid (by rw [List.map_append, hL.out, TT.out]; rfl), Lib.hid (by have := ST3.1; rw [NX] at this; rw [show m - (k + 1) = m - k - 1 by omega]; exact this), Lib.hid (fun y hy => ?_), Lib.hid ((((next0 hD.out (h7.mono (Nat.le_refl _))).setCell (Nat.le_refl _) _).setCell (Nat.le_refl _) _).setCell (Nat.le_refl _) _), by simp only [World.setCell, Array.size_modify]; omega⟩
              rcases List.mem_append.1 hy with hy | hy
              · have := KB.keep (hI.out y hy) (w' := w7) fun b o hb => h7.cell (p := ⟨b, o, none⟩) hb.2
                have := KB.keep this (fun b o hb => FAR b o (by omega))
                exact KB.wide this fun b hb => ⟨hb.1, by simp only [World.setCell, Array.size_modify]; omega⟩
              · obtain rfl := List.mem_singleton.1 hy
                have : KB.inn (fun b => wr.heap.size < b ∧ b < w7.heap.size) w7 (x, Value.slice q7 x.2.args.length d7) := ⟨hs7, hn7, XV.out⟩
                have := KB.keep this (fun b o hb => FAR b o (by omega))
                exact KB.wide this fun b hb => ⟨by omega, by simp only [World.setCell, Array.size_modify]; omega⟩)
            clear hs hts htv hx
            unfold RepR at CI
            generalize x.1 = xv at *
            generalize x.2.nm = xn at *
            generalize x.2.args.length = xa at *
            go_upto_region 10 with fail
            rw [← hW6]
            clear c1' c2' c3'
            clear hW6 R1 R2 R3
            go_region_law (first
              | (go_simp; go_at_call 42; (with_reducible refine (CI.out _ (by first | exact K6.out | exact K6.out.drew | exact below_drewN K6.out _)).mono ?_); rintro e w7 ⟨q7, d7, rfl, hS7, hn7, hb7⟩; have B7 : Below W6.heap.size W6 w7 := (by first | exact hb7 | exact next0 (Below.refl _ _).drew hb7 | exact next0 (below_drewN (Below.refl _ _) _) hb7); have D7 : Hid (Below wr.heap.size wr w7) := Lib.hid (next0 K6.out B7); have S7 := Lib.hid (hS7.weaken (ok' := fun b => wr.heap.size < b ∧ b < w7.heap.size) (fun b hb => ⟨by have := HZ6.out; have h6 : W6.heap.size ≤ b := hb.1; omega, hb.2⟩)); have N7 := Lib.hid hn7; obtain ⟨a1, a2, a3, a4, a5, a6⟩ := RW.out w7 D7.out; have a7 := TF.out w7 B7; clear hS7 hn7 hb7 B7))
            all_goals
              go_wp2_with fail
              go_roundw
              case rel => exact ⟨k + 1, _, by omega, by go_num, FIN.out w7 q7 d7 D7.out S7.out N7.out _ rfl⟩
              case measure => simp [intOf]; omega
          · obtain rfl : k = m := by omega
            have HL : Hid (L.map (·.1) = s9) := Lib.hid (by rw [hL.out, ← HSL.out]; simp)
            have OW := hO.out
            rw [Nat.sub_self, show restB 0 = [] from rfl, List.append_nil] at OW
            have S4 : Hid (SIn (· < wr.heap.size) wr s9 (.slice (some ⟨w5.heap.size, 0, none⟩) k k)) := Lib.hid (by
              rw [← HL.out]
              exact (sin_own hLl OW hI.out hsz).wide fun b hb => hb.2)
            clear OW
            go_wp2_with fail
            refine bodyPost_ret (v := .tuple #[.slice (some ⟨w5.heap.size, 0, none⟩) k k, .bool true]) (by simp [results, Tryz.results26, go_sem]) rfl ?_
            unfold MtR
            exact ⟨_, true, rfl, (fun _ => ⟨s9, EO.out, S4.out⟩), (fun h => by cases h), next0 D5.out hD.out⟩
end UniQ
end Go.Proofs.YtjfgnmmcdgpiiaaGreatDoor
/- Unify of the code: what it answers is unifyP. Conditions: terms of at most a million parts and bytes, at most a million entries; the variable nameEnds holds its bytes; the library's sort of strings as a premise. -/
namespace Go.Proofs.YtjfgnmmcdgpiiaaGreatDoor
open Go Go.RowKit Go.Maps Go.WideMaps
namespace UnmF
open LexM TermM TermI Kit TermN TermU TermL TermE TermF UniK UniM UniA UniG UniJ UniL UniR UniD UniH TermT UnmA UnmB UnmC UnmD UnmE
/-- What the library's sort of strings leaves. -/
def SortC : Prop := ∀ (base : Nat) (w : World) (v : Value) (vs : List ByteArray), w.ownsRow base 9 1 v vs.length (strs vs) → vs.length ≤ 1000000 → Calls Tryz.prog 55 #[v] w fun e w' => e = .returned (.tuple #[]) ∧ w'.ownsRow base 9 1 v vs.length (strs (sortB vs)) ∧ Below base w w'
theorem vars_var {xs : List ByteArray} : ∀ v ∈ varsOf xs, varB v = true := by
  have gen : ∀ (xs M : List ByteArray), (∀ x ∈ M, varB x = true) → ∀ x ∈ xs.foldl addV M, varB x = true := by
    intro xs
    induction xs with
    | nil => intro M hM; exact hM
    | cons a r ih =>
      intro M hM
      refine ih (addV M a) ?_
      intro x h
      unfold addV at h
      split at h
      · next hc =>
        rcases List.mem_append.1 h with h | h
        · exact hM x h
        · obtain rfl := List.mem_singleton.1 h; exact hc.1
      · exact hM x h
  exact gen xs [] (fun x h => by simp at h)
theorem var_ok {v : ByteArray} (h : varB v = true) : v.size ≤ 16 := by
  unfold varB varL at h
  simp only [Bool.and_eq_true, decide_eq_true_eq] at h
  exact h.1.1
theorem leaf_ok {v : ByteArray} (h : varB v = true) : Ok (.mk v []) := by
  have h1 := var_ok h
  have h2 : v.data.toList.length = v.size := rfl
  exact ⟨by simp only [Tm.nm, maxLen]; omega, by simp [textT]; omega, by simp [sizeT, sizeL]⟩
theorem sol_cons {D : Cls} {n : Nat} {v : ByteArray} {l : List ByteArray} {r : List Bd} (h : solP D n (v :: l) = some r) : ∃ t r', resP D n 4 (.mk v []) = some t ∧ solP D n l = some r' ∧ r = if eqB t.nm v = true then r' else (v, t) :: r' := by
  unfold solP at h
  cases h1 : resP D n 4 (.mk v []) with
  | none => rw [h1] at h; cases h
  | some t =>
    cases h2 : solP D n l with
    | none => rw [h1, h2] at h; cases h
    | some r' =>
      rw [h1, h2] at h
      cases h
      exact ⟨t, r', rfl, rfl, rfl⟩
theorem bd3 {n : Nat} (h : n ≤ 1000000) : n + 1 ≤ maxLen := by unfold maxLen; omega
theorem bd4 {n : Nat} (h : n ≤ 1000000) : (n + 1) * 56 ≤ 140737488355328 := by omega
set_option maxRecDepth 100000 in
set_option maxHeartbeats 6400000 in
theorem unify_any (SC : SortC) (n : Nat) (a b : Tm) (o : Option (List Bd)) (ho : unifyP n a b = some o) (oa : Ok a) (ob : Ok b) (hz : sizeT a + sizeT b ≤ 1000000) (hD : ∀ D r, joinP n [] a b = some (D, r) → D.length ≤ 1000000)
    (B : Nat) (w : World) (av bv : Value) (hw : Wd w) (hg : 0 < B) (hB : B ≤ w.heap.size) (ha : SlIn (· < B) w a.args av) (hb : SlIn (· < B) w b.args bv) :
    Calls Tryz.prog 29 #[.agg #[.string a.nm, av], .agg #[.string b.nm, bv]] w (MtR o w) := by
  obtain ⟨i0, hi, hz0, hz1, hz2⟩ := info_parts infoB
  obtain ⟨pa, ca, rfl⟩ := ha.form
  obtain ⟨pb, cb, rfl⟩ := hb.form
  obtain ⟨W2, hW2⟩ : ∃ W2, W2 = (w.alloc (.cells #[.string a.nm, .slice pa a.args.length ca] 27)).alloc (.cells #[.string b.nm, .slice pb b.args.length cb] 27) := ⟨_, rfl⟩
  have B2 : Hid (Below w.heap.size w W2) := Lib.hid (by rw [hW2]; exact ((Gr.alloc _ _).more _).1)
  have hs2 : w.heap.size + 2 ≤ W2.heap.size := by rw [hW2]; simp
  have H2 : Hid (Has W2 w.heap.size #[.string a.nm, .slice pa a.args.length ca]) := Lib.hid (by rw [hW2]; exact (Has.new w _ _).alloc _)
  have T2 : Hid (Has W2 (w.heap.size + 1) #[.string b.nm, .slice pb b.args.length cb]) := Lib.hid (by rw [hW2]; exact Has.new1 w _ _ _)
  have VA := Lib.hid (fun w' (k : Below w.heap.size w w') => TermV.valid_any a B w' _ (Nat.le_trans hB k.size) oa.1 (ha.deep k hB))
  have VB := Lib.hid (fun w' (k : Below w.heap.size w w') => TermV.valid_any b B w' _ (Nat.le_trans hB k.size) ob.1 (hb.deep k hB))
  have CJ := Lib.hid (fun D r (hj : joinP n [] a b = some (D, r)) w' (k : Below w.heap.size w w') => join_any n [] a b D r hj (hD D r hj) B w'.heap.size (w'.alloc (.map #[] 0)) _ _ (hw.below (next0 k (below_alloc _ _)) hw.1) hg (Nat.le_trans hB k.size) (Cl.made w' B) (ha.deep (next0 k (below_alloc _ _)) hB) (hb.deep (next0 k (below_alloc _ _)) hB) oa ob)
  have CV := Lib.hid (fun (w' : World) sv (B' : Nat) (h1 : B' ≤ w'.heap.size) (h : SlIn (· < B') w' [a, b] sv) => vars_any [a, b] B' w' sv h1 h (by simp only [sizeL]; omega))
  have SA := Lib.hid (fun w' (k : Below B w w') => And.intro (ha.deep k (Nat.le_refl _)) (hb.deep k (Nat.le_refl _)))
  have WW := Lib.hid (fun w' (k : Below B w w') => hw.below k hg)
  have HN := Lib.hid (And.intro oa.1 ob.1)
  have VV : Hid (∀ v ∈ sortB (varsOf (leavesL [a, b])), varB v = true) := Lib.hid (fun v h => vars_var v (sortB_mem h))
  have hvl : (varsOf (leavesL [a, b])).length ≤ 1000000 := by
    have h1 := varsOf_len (leavesL [a, b])
    have h2 := leavesL_len [a, b]
    simp only [sizeL] at h2
    omega
  have hvs := sortB_len (varsOf (leavesL [a, b]))
  have CS := Lib.hid (fun base w' v h => SC base w' v (varsOf (leavesL [a, b])) h hvl)
  have HB := Lib.hid hB
  have HG := Lib.hid hg
  have hmm := @run_makeMap Tryz.prog
  unfold unifyP at ho
  generalize sortB (varsOf (leavesL [a, b])) = vs at *
  generalize hvz : varsOf (leavesL [a, b]) = vz at *
  unfold Vrs at CV
  unfold JnR at CJ
  clear ha hb hw hz oa ob hD hB hg SC
  obtain ⟨va, hva⟩ : ∃ z, validT false 4 a = z := ⟨_, rfl⟩
  obtain ⟨vb, hvb⟩ : ∃ z, validT false 4 b = z := ⟨_, rfl⟩
  rw [hva] at VA ho
  rw [hvb] at VB ho
  clear hva hvb
  generalize hj : joinP n [] a b = oj at *
  clear hj
  generalize hna : a.nm = an at *
  generalize hal : a.args.length = al at *
  generalize hnb : b.nm = bn at *
  generalize hbl : b.args.length = bl at *
  have HNA := Lib.hid (And.intro hna hnb)
  clear hna hnb hal hbl
  obtain ⟨y1, y2, y3, y4, y5⟩ := H2.out.two
  go_enter Tryz.func29, Tryz.ntmps29
  go_upto_region 1 with fail
  rw [← hW2]
  clear hW2
  go_wp2_with fail
  refine (VA.out _ B2.out).mono ?_
  rintro e w3 ⟨rfl, g3⟩
  have D3 := Lib.hid (next0 B2.out g3.1)
  have H3 := Lib.hid (H2.out.step0 g3.1)
  have T3 := Lib.hid (T2.out.step0 g3.1)
  have hs3 : w.heap.size + 2 ≤ w3.heap.size := Nat.le_trans hs2 g3.1.size
  clear VA g3 H2 T2 B2 hs2 y1 y2 y3 y4 y5
  cases va
  · have e9 : o = none := by simpa using ho.symm
    subst e9
    go_wp2_with fail
    refine bodyPost_ret (v := .tuple #[.slice none 0 0, .bool false]) (by simp [results, Tryz.results29, go_sem]) rfl ?_
    unfold MtR
    exact ⟨_, false, rfl, (fun h => by cases h), (fun _ => ⟨rfl, rfl⟩), D3.out⟩
  obtain ⟨z1, z2, _⟩ := T3.out.two
  go_wp2_with fail
  refine (VB.out _ D3.out).mono ?_
  rintro e w4 ⟨rfl, g4⟩
  have D4 := Lib.hid (next0 D3.out g4.1)
  have H4 := Lib.hid (H3.out.step0 g4.1)
  have T4 := Lib.hid (T3.out.step0 g4.1)
  have hs4 : w.heap.size + 2 ≤ w4.heap.size := Nat.le_trans hs3 g4.1.size
  clear VB g4 H3 T3 D3 hs3 z1 z2
  cases vb
  · have e9 : o = none := by simpa using ho.symm
    subst e9
    go_wp2_with fail
    refine bodyPost_ret (v := .tuple #[.slice none 0 0, .bool false]) (by simp [results, Tryz.results29, go_sem]) rfl ?_
    unfold MtR
    exact ⟨_, false, rfl, (fun h => by cases h), (fun _ => ⟨rfl, rfl⟩), D4.out⟩
  rw [if_neg (by simp)] at ho
  obtain ⟨D, r, rfl⟩ : ∃ D r, oj = some (D, r) := by
    cases oj with
    | none => cases ho
    | some z => exact ⟨z.1, z.2, rfl⟩
  obtain ⟨W5, hW5⟩ : ∃ W5, W5 = w4.alloc (.map #[] 0) := ⟨_, rfl⟩
  have H5 : Hid (Has W5 w.heap.size #[.string an, .slice pa al ca]) := Lib.hid (by rw [hW5]; exact H4.out.alloc _)
  have T5 : Hid (Has W5 (w.heap.size + 1) #[.string bn, .slice pb bl cb]) := Lib.hid (by rw [hW5]; exact T4.out.alloc _)
  have CJ5 := Lib.hid (CJ.out D r rfl w4 D4.out)
  rw [← hW5] at CJ5
  have D5 : Hid (Below w.heap.size w W5) := Lib.hid (by rw [hW5]; exact next0 D4.out (below_alloc _ _))
  have hs5 : w4.heap.size < W5.heap.size := by rw [hW5]; simp
  obtain ⟨y1, y2, _⟩ := H5.out.two
  obtain ⟨z1, z2, _⟩ := T5.out.two
  clear CJ H4 T4
  go_upto_region 4 with fail
  rw [← hW5]
  clear hW5 hmm
  go_wp2_with fail
  refine CJ5.out.mono ?_
  rintro e w6 ⟨rfl, hC6, h6⟩
  have C6 := Lib.hid hC6
  have K6 := Lib.hid h6
  have D6 : Hid (Below w.heap.size w w6) := Lib.hid (D5.out.trans (h6.toBelow (by have := D4.out.size; omega) (by have := D5.out.size; omega)))
  have H6 := Lib.hid (h6.has H5.out (by omega))
  have T6 := Lib.hid (h6.has T5.out (by omega))
  have hs6 : w4.heap.size < w6.heap.size := Nat.lt_of_lt_of_le hs5 h6.size
  clear CJ5 hC6 h6 H5 T5 D5 K6 hs5 y1 y2 z1 z2
  cases r
  · have e9 : o = none := by simpa using ho.symm
    subst e9
    go_wp2_with fail
    refine bodyPost_ret (v := .tuple #[.slice none 0 0, .bool false]) (by simp [results, Tryz.results29, go_sem]) rfl ?_
    unfold MtR
    exact ⟨_, false, rfl, (fun h => by cases h), (fun _ => ⟨rfl, rfl⟩), D6.out⟩
  dsimp only at ho
  obtain ⟨s, hs, hos⟩ : ∃ s, solP D n vs = some s ∧ Hid (o = (if vldS s = true then some s else none)) := by
    cases h : solP D n vs with
    | none => rw [h] at ho; cases ho
    | some s => rw [h] at ho; cases ho; exact ⟨s, rfl, Lib.hid rfl⟩
  have HS := Lib.hid hs
  clear ho hs
  obtain ⟨y1, y2, _⟩ := H6.out.two
  obtain ⟨z1, z2, _⟩ := T6.out.two
  obtain ⟨W7, hW7⟩ : ∃ W7, W7 = w6.alloc (.cells #[.string an, .slice pa al ca, .string bn, .slice pb bl cb] 27) := ⟨_, rfl⟩
  have R7 : Hid (Has W7 w6.heap.size #[.string an, .slice pa al ca, .string bn, .slice pb bl cb]) := Lib.hid (by rw [hW7]; exact Has.new _ _ _)
  have K7 : Hid (Below w6.heap.size w6 W7) := Lib.hid (by rw [hW7]; exact below_alloc _ _)
  have hs7 : w6.heap.size + 1 = W7.heap.size := by rw [hW7]; simp
  have hB6 : B ≤ w6.heap.size := Nat.le_trans HB.out D6.out.size
  have CV7 := Lib.hid (CV.out W7 (.slice (some ⟨w6.heap.size, 0, none⟩) 2 2) (w6.heap.size + 1) (by omega) (by
    have D7 : Below B w W7 := (D6.out.mono HB.out).trans (K7.out.mono hB6)
    obtain ⟨s1, s2⟩ := SA.out W7 D7
    obtain ⟨n1, n2⟩ := HNA.out
    refine TermH.slin_of (B := B) (B' := w6.heap.size + 1) (g := w6.heap.size) (cap := 2) (L := [(a, .slice pa al ca), (b, .slice pb bl cb)]) (by omega) (by omega) (Nat.le_refl _) (by decide) (by have := R7.out; rw [← n1, ← n2] at this; exact this) ?_
    intro x hx
    rcases List.mem_cons.1 hx with rfl | hx
    · exact ⟨s1, by rw [n1]; exact HN.out.1⟩
    · obtain rfl := List.mem_singleton.1 hx
      exact ⟨s2, by rw [n2]; exact HN.out.2⟩))
  clear CV R7 SA H6 T6
  go_wp2_with fail
  rw [← hW7]
  clear hW7
  refine CV7.out.mono ?_
  rintro e w8 ⟨v8, base8, rfl, hO8, hb8, k8⟩
  obtain ⟨a9, c9, rfl⟩ := row_form hO8
  have K8 := Lib.hid (next0 K7.out k8)
  have hs8 : w6.heap.size ≤ w8.heap.size := K8.out.size
  have CS8 := Lib.hid (CS.out base8 w8 _ hO8)
  clear CV7 k8 K7 y1 y2 z1 z2 hO8 CS
  go_wp2_with fail
  refine CS8.out.mono ?_
  rintro e w9 ⟨rfl, hO9, k9⟩
  have O9 := Lib.hid hO9
  have K9 := Lib.hid (K8.out.trans (k9.mono (by omega)))
  have D9 := Lib.hid (next0 D6.out K9.out)
  have C9 := Lib.hid (C6.out.keep K9.out hB6)
  have hB9 : B ≤ w9.heap.size := Nat.le_trans hB6 K9.out.size
  have hp9 : 0 < w9.heap.size := by have := HG.out; omega
  clear CS8 hO9 k9 K8 C6 K9 D6
  generalize hmz : vz.length = m at *
  have CR := Lib.hid (fun (v u : ByteArray × Tm) (hv : varB v.1 = true) (hr : resP D n 4 (.mk v.1 []) = some u.2) w' (k : Below w9.heap.size w9 w') => (res_any D n 4 (by omega) (.mk v.1 []) u.2 hr B w4.heap.size w' (.slice none 0 0) (WW.out w' ((D9.out.mono HB.out).trans (k.mono hB9))) (Nat.le_trans hB9 k.size) (C9.out.keep k hB9) (SlIn.none _ _) (leaf_ok hv) : Calls Tryz.prog 56 #[.map (some w4.heap.size), .agg #[.string v.1, .slice none 0 0], .int .i64 4] w' (RApR 0 u.2 w')))
  have HVM := Lib.hid hvs
  clear hvs hmz hvz
  unfold RApR at CR
  go_wp2_with fail
  go_loopw [8, 34] (fun v i wr => ∃ (k : Nat) (L : List (Bd × Value)), k ≤ m ∧ i = .int .i64 k ∧ Hid (∃ r, solP D n (vs.drop k) = some r ∧ L.map (·.1) ++ r = s) ∧ Hid (OwnG KB w9.heap.size wr L v) ∧ L.length ≤ k ∧ Hid (Below w9.heap.size w9 wr)) (fun _ i _ => m - (intOf i).toNat)
  case atStart => exact ⟨0, [], Nat.zero_le _, rfl, Lib.hid ⟨s, HS.out, rfl⟩, Lib.hid (OwnG.nil _ _), Nat.le_refl _, Lib.hid (Below.refl _ _)⟩
  case round =>
    obtain ⟨k, L, hk, rfl, hE, hO, hL, hK⟩ := hrel
    obtain ⟨va, vc, rfl⟩ := hO.out.form
    by_cases hlt : k < m
    · obtain ⟨v0, hv0⟩ : ∃ v0, vs[k]? = some v0 := ⟨vs[k]'(by rw [HVM.out]; exact hlt), by simp⟩
      obtain ⟨r, hr, hrs⟩ := hE.out
      rw [TermQ.drop_get hv0] at hr
      obtain ⟨u, r', hu, hr', rfl⟩ := sol_cons hr
      have OR : wr.ownsRow base8 9 1 (.slice a9 m c9) vs.length (strs vs) := by
        have := own_below (w' := wr) O9.out hK.out
        rw [HVM.out]
        exact this
      obtain ⟨g, cap, hav, hcell, hgb, hgl⟩ := row_str OR hv0
      injection hav with hav1 hav3 hav2
      subst hav1 hav2
      clear hav3
      have hvv := VV.out v0 (List.mem_of_getElem? hv0)
      have hv16 := var_ok hvv
      have CR0 := Lib.hid (fun w' (k : Below w9.heap.size w9 w') => CR.out (v0, .mk v0 []) (v0, u) hvv hu w' k)
      have E0 := Lib.hid hr'
      have E1 := Lib.hid hrs
      have CLf := Lib.hid (fun w' => leaf_nil v0 w')
      have hOl := Lib.hid hO.out.1.lt
      have A1 := bd3 (show L.length ≤ 1000000 by omega)
      have A2 := bd4 (show L.length ≤ 1000000 by omega)
      clear hv0 hr hu hr' hrs OR hE hvv
      go_wp2_with fail
      refine (CLf.out _).mono ?_
      rintro e w10 ⟨rfl, k10⟩
      have K10 := Lib.hid (next0 hK.out k10)
      have O10 := Lib.hid (hO.out.ch (r := 0) (Ch.of k10) hp9)
      have hs10 : wr.heap.size ≤ w10.heap.size := k10.size
      clear hcell k10 CLf hO
      go_wp2_with fail
      refine (CR0.out _ K10.out).mono ?_
      rintro e w11 ⟨q, d, rfl, hS, hnu, k11⟩
      have K11 := Lib.hid (next0 K10.out k11)
      have O11 := Lib.hid (O10.out.ch (r := 0) (Ch.of k11) hp9)
      have hs11 : w10.heap.size ≤ w11.heap.size := k11.size
      have S11 := Lib.hid (hS.weaken (ok' := fun b => w10.heap.size ≤ b ∧ b < w11.heap.size) (fun b hb => by have := hb; omega))
      have NU := Lib.hid hnu
      clear hS hnu k11 CR0 K10 O10
      obtain ⟨W12, hW12⟩ : ∃ W12, W12 = w11.alloc (.cells #[.string u.nm, .slice q u.args.length d] 27) := ⟨_, rfl⟩
      have K12 : Hid (Below w9.heap.size w9 W12) := Lib.hid (by rw [hW12]; exact next0 K11.out (below_alloc _ _))
      have O12 : Hid (OwnG KB w9.heap.size W12 L (.slice va L.length vc)) := Lib.hid (by rw [hW12]; exact O11.out.ch (r := 0) (Ch.of (below_alloc _ _)) hp9)
      have S12 : Hid (SlIn (fun b => w10.heap.size ≤ b ∧ b < W12.heap.size) W12 u.args (.slice q u.args.length d)) := Lib.hid (by
        rw [hW12]
        exact (S11.out.frame (w' := w11.alloc (.cells #[.string u.nm, .slice q u.args.length d] 27)) fun b o hb => (below_alloc w11 _).cell (p := ⟨b, o, none⟩) hb.2).weaken fun b hb => ⟨hb.1, by simp; omega⟩)
      have hs12 : w11.heap.size + 1 = W12.heap.size := by rw [hW12]; simp
      obtain ⟨u1, u2, _⟩ := (show Has W12 w11.heap.size #[.string u.nm, .slice q u.args.length d] by rw [hW12]; exact Has.new _ _ _).two
      obtain ⟨z, hz⟩ : ∃ z, (u.nm.toList == v0.toList) = z := ⟨_, rfl⟩
      have EZ : Hid (eqB u.nm v0 = z) := Lib.hid (by unfold eqB; rw [← hz, ByteArray.toList_eq, ByteArray.toList_eq])
      have h9r : w9.heap.size ≤ wr.heap.size := hK.out.size
      have hzb : w9.heap.size ≤ (W12.alloc (.cells #[.string v0, .string u.nm, .slice q u.args.length d] 52)).heap.size := by simp; omega
      clear K11 O11 S11 hK
      cases z
      · have e1 := E1.out
        rw [EZ.out, if_neg (by simp)] at e1
        have E2 : Hid ((L ++ [((v0, u), Value.slice q u.args.length d)]).map (·.1) ++ r' = s) := Lib.hid (by rw [List.map_append, List.append_assoc]; exact e1)
        have KI : Hid (KB.inn (fun b => w10.heap.size ≤ b ∧ b < W12.heap.size) W12 ((v0, u), Value.slice q u.args.length d)) := Lib.hid ⟨S12.out, NU.out, by unfold maxLen; show v0.size ≤ _; omega⟩
        clear e1 E1 S12
        generalize hun : u.nm = un at *
        have HUN := Lib.hid hun
        clear hun
        generalize hul : u.args.length = ul at *
        clear hul
        go_upto_region 13 with fail
        rw [← hW12]
        clear hW12
        go_wp2_with (at_builtin; refine wpList_append_lies _ rfl _ _ 22 rfl w9.heap.size 52 i0 zB 3 56 Tryz.underlying22 hi hz0 hz1 hz2 rfl (by decide) (.slice va L.length vc) L.length (KB.flat L) rfl (O12.out.1.alloc _) ⟨W12.heap.size, 0, none⟩ 1 1 [.string v0, .string un, .slice q ul d] rfl rfl (newsK _ _ _ _ _) (one_B _ _ _ _ _) (by decide) A1 A2 hzb (W12.heap.size + 1) (by simp) ?_; intro g5 cap5 w13 hown hgrow hat hlt5)
        have HA := OwnG.add (lo := w10.heap.size) (x := ((v0, u), Value.slice q ul d)) (K := KB) O12.out KI.out (by omega) (fun k hk => by have := (hOl.out k hk).2; omega) (by have e := HUN.out; rw [← e] at hown; exact hown) hgrow hat
        have K13 := Lib.hid ((K12.out.alloc (by exact K12.out.size) _).grown hgrow (by have := K12.out.size; simp; omega) (fun k hk => by have := (hOl.out k hk).1; omega))
        have O13 := Lib.hid HA
        have LL : (L ++ [((v0, u), Value.slice q ul d)]).length ≤ k + 1 := by simp; omega
        clear HA hown hgrow hat KI O12
        go_wp2_with fail
        go_roundw
        case rel => (repeat (refine Exists.intro _ ?_)); first | exact ⟨k + 1, _, by omega, by go_num, Lib.hid ⟨r', E0.out, E2.out⟩, O13, LL, K13⟩ | (refine ⟨?_, rfl⟩; exact ⟨k + 1, _, by omega, by go_num, Lib.hid ⟨r', E0.out, E2.out⟩, O13, LL, K13⟩)
        case measure => simp [intOf]; omega
      · have e1 := E1.out
        rw [EZ.out, if_pos rfl] at e1
        have E2 := Lib.hid e1
        clear e1 E1 S12 NU
        generalize u.nm = un at *
        generalize u.args.length = ul at *
        go_upto_region 13 with fail
        rw [← hW12]
        clear hW12
        go_wp2_with fail
        go_roundw
        case rel => (repeat (refine Exists.intro _ ?_)); first | exact ⟨k + 1, L, by omega, by go_num, Lib.hid ⟨r', E0.out, E2.out⟩, O12, by omega, K12⟩ | (refine ⟨?_, rfl⟩; exact ⟨k + 1, L, by omega, by go_num, Lib.hid ⟨r', E0.out, E2.out⟩, O12, by omega, K12⟩)
        case measure => simp [intOf]; omega
    · obtain rfl : k = m := by omega
      have hLs : L.map (·.1) = s := by
        obtain ⟨r, hr, hrs⟩ := hE.out
        rw [← HVM.out, List.drop_length] at hr
        cases hr
        simpa using hrs
      have SI : Hid (SIn (· < wr.heap.size) wr s (.slice va L.length vc)) := Lib.hid ⟨L, hLs, (hO.out.row).wide fun b hb => hb.2⟩
      have CW := Lib.hid (cvalid_any s wr.heap.size wr _ (Nat.le_refl _) SI.out)
      have KW := Lib.hid (next0 D9.out hK.out)
      clear hE hO hLs
      obtain ⟨z, hz⟩ : ∃ z, vldS s = z := ⟨_, rfl⟩
      rw [hz] at CW hos
      clear hz
      go_wp2_with fail
      refine CW.out.mono ?_
      rintro e w14 ⟨rfl, g14⟩
      have S14 := Lib.hid ((SI.out.gr g14 (Nat.le_refl _)).wide (ok' := (· < w14.heap.size)) fun b hb => Nat.lt_of_lt_of_le hb g14.size)
      have K14 := Lib.hid (next0 KW.out g14.1)
      clear g14 CW SI
      cases z
      · go_wp2_with fail
        refine bodyPost_ret (v := .tuple #[.slice none 0 0, .bool false]) (by simp [results, Tryz.results29, go_sem]) rfl ?_
        unfold MtR
        exact ⟨_, false, rfl, (fun h => by cases h), (fun _ => ⟨by have := hos.out; simpa using this, rfl⟩), K14.out⟩
      · go_wp2_with fail
        refine bodyPost_ret (v := .tuple #[.slice va L.length vc, .bool true]) (by simp [results, Tryz.results29, go_sem]) rfl ?_
        unfold MtR
        exact ⟨_, true, rfl, (fun _ => ⟨s, by have := hos.out; simpa using this, S14.out⟩), (fun h => by cases h), K14.out⟩
end UnmF
end Go.Proofs.YtjfgnmmcdgpiiaaGreatDoor
/- The library's sort of strings, and the variables of a rule without a body. Condition: at most a million parts. -/
namespace Go.Proofs.YtjfgnmmcdgpiiaaGreatDoor
open Go Go.RowKit Go.Maps Go.WideMaps
namespace UnmG
open LexM TermM TermI Kit TermN TermU TermL TermE TermF UniK UniM UniD UnmE UnmF
theorem sort_nil : sortB [] = [] := by simp [sortB, lists, bytesOf]
theorem sortc : SortC := by
  intro base w v vs hown hl
  have h0 := hown
  rcases hown.2 with ⟨rfl, hz⟩ | ⟨g, cap, cur, rfl, e2, e3, e4, e5, e6, e7⟩
  · have hv : vs = [] := List.eq_nil_of_length_eq_zero hz
    subst hv
    refine (Tryz.slices_Sort_string_none none 0 w).mono ?_
    rintro e w' ⟨rfl, rfl⟩
    exact ⟨rfl, by rw [sort_nil]; exact h0, Below.refl _ _⟩
  · have hg := (h0.lt g rfl).2
    have hll : (lists vs).length = vs.length := by simp [lists]
    have hH : Go.Sort.Holds encStr w g 0 (lists vs).toArray := by
      intro j hj
      have hj' : j < vs.length := by simpa [lists] using hj
      refine ⟨?_, h0.frozenAt _⟩
      rw [Nat.zero_add, h0.cellAt j (by omega)]
      have e9 : (lists vs).toArray[j]! = vs[j].data.toList := by
        rw [getElem!_pos _ j (by simpa using hj)]
        simp [lists]
      rw [e9]
      simp [strs, encStr, hj']
    have C := Tryz.slices_Sort_string g 0 cap (lists vs) w hH hg (by omega)
    rw [hll] at C
    refine C.mono ?_
    rintro e w' ⟨rfl, n, os, rfl⟩
    have hsl : ((lists vs).mergeSort fun x y => decide (x ≤ y)).length = vs.length := by simp [lists]
    have P := put_row (ls := (lists vs).mergeSort fun x y => decide (x ≤ y)) (by rw [hsl]; exact h0) n os
    rw [hsl] at P
    refine ⟨rfl, ?_, P.2⟩
    rw [show strs (sortB vs) = ((lists vs).mergeSort fun x y => decide (x ≤ y)).map encStr from strs_bytes _]
    exact P.1
set_option maxRecDepth 100000 in
set_option maxHeartbeats 800000 in
theorem rvars_nil (h : Tm) (B : Nat) (w : World) (hv : Value) (hB : B ≤ w.heap.size) (hs : SlIn (· < B) w h.args hv) (hn : h.nm.size ≤ maxLen) (hz : sizeT h ≤ 900000) :
    Calls Tryz.prog 62 #[.agg #[.string h.nm, hv, .slice none 0 0]] w (Vrs (varsOf (leavesL [h])) w) := by
  obtain ⟨p, c, rfl⟩ := hs.form
  obtain ⟨W1, hW1⟩ : ∃ W1, W1 = w.alloc (.cells #[.string h.nm, .slice p h.args.length c, .slice none 0 0] 34) := ⟨_, rfl⟩
  have R1 : Hid (Has W1 w.heap.size #[.string h.nm, .slice p h.args.length c, .slice none 0 0]) := Lib.hid (by rw [hW1]; exact Has.new _ _ _)
  have K1 : Hid (Below w.heap.size w W1) := Lib.hid (by rw [hW1]; exact below_alloc _ _)
  obtain ⟨W2, hW2⟩ : ∃ W2, W2 = W1.alloc (.cells #[.string h.nm, .slice p h.args.length c] 27) := ⟨_, rfl⟩
  have R2 : Hid (Has W2 W1.heap.size #[.string h.nm, .slice p h.args.length c]) := Lib.hid (by rw [hW2]; exact Has.new _ _ _)
  have K2 : Hid (Below w.heap.size w W2) := Lib.hid (by rw [hW2]; exact next0 K1.out (below_alloc _ _))
  have R12 : Hid (Has W2 w.heap.size #[.string h.nm, .slice p h.args.length c, .slice none 0 0]) := Lib.hid (by rw [hW2]; exact R1.out.alloc _)
  have hs1 : w.heap.size + 1 = W1.heap.size := by rw [hW1]; simp
  have hs2 : W1.heap.size + 1 = W2.heap.size := by rw [hW2]; simp
  have SL := TermH.slin_of (B := B) (B' := W1.heap.size + 1) (L := [(h, .slice p h.args.length c)]) (by omega) (by omega) (Nat.le_refl _) (by unfold maxLen; simp) R2.out (fun x hx => by
    obtain rfl := List.mem_singleton.1 hx
    exact ⟨hs.deep K2.out hB, hn⟩)
  have CV := Lib.hid (fun w' (k : Below W2.heap.size W2 w') => vars_any [h] (W1.heap.size + 1) w' (.slice (some ⟨W1.heap.size, 0, none⟩) 1 1) (by have := k.size; omega) (SL.deep k (by omega)) (by simp only [sizeL]; omega))
  clear hs hn hz R2 SL
  generalize varsOf (leavesL [h]) = vz at *
  unfold Vrs at CV ⊢
  generalize h.nm = hnm at *
  generalize h.args.length = hl at *
  obtain ⟨y1, y2, y3⟩ := UniA.three R1.out
  go_enter Tryz.func62, Tryz.ntmps62
  go_upto_region 1 with fail
  rw [← hW1]
  clear hW1
  go_upto_region 2 with fail
  rw [← hW2]
  clear hW2 y1 y2 y3
  obtain ⟨y1, y2, y3⟩ := UniA.three R12.out
  go_wp2_with fail
  go_loopw [3, 12] (fun v i wr => ∃ k : Nat, k ≤ 0 ∧ i = .int .i64 k ∧ v = .slice (some ⟨W1.heap.size, 0, none⟩) 1 1 ∧ Hid (Below W2.heap.size W2 wr)) (fun _ i _ => 0 - (intOf i).toNat)
  case atStart => exact ⟨0, Nat.le_refl _, rfl, rfl, Lib.hid (Below.refl _ _)⟩
  case round =>
    obtain ⟨k, hk, rfl, rfl, hK⟩ := hrel
    have hk0 : ¬ ((k : Int) < 0) := by omega
    go_wp2_with fail
    refine (CV.out _ hK.out).mono ?_
    rintro e w3 ⟨v', base, rfl, h1, h2, h3⟩
    have H1 := Lib.hid h1
    have K3 := Lib.hid (next0 (next0 K2.out hK.out) h3)
    have hsr := hK.out.size
    clear h1 h3
    go_wp2_with fail
    go_ret
    exact ⟨_, base, rfl, H1.out, by omega, K3.out⟩
end UnmG
end Go.Proofs.YtjfgnmmcdgpiiaaGreatDoor
/- The code's Apply. Conditions: the substitution's names ascend; terms of at most a million parts. Made by genunid.py. -/
namespace Go.Proofs.YtjfgnmmcdgpiiaaGreatDoor
open Go Go.RowKit
namespace UniF
open LexM TermM TermI Kit TermN TermU UniK UniM UniA UniC UniD UniE
set_option maxRecDepth 100000 in
set_option maxHeartbeats 6400000 in
theorem replace_any (g : Nat) (φ : ByteArray → Tm) (t : Tm) : ∀ (B : Nat) (w : World) (sv : Value), B ≤ w.heap.size → SlIn (· < B) w t.args sv → t.nm.size ≤ maxLen → sizeT t ≤ 1000000 →
    (∀ (w' : World) (n : ByteArray), Below w.heap.size w w' → n.size ≤ maxLen → Calls Tryz.prog 79 #[.string n, .pointer (some ⟨g, 0, none⟩)] w' (RepR (φ n) w')) →
    Calls Tryz.prog 45 #[.agg #[.string t.nm, sv], .func (.func 79) #[] #[.pointer (some ⟨g, 0, none⟩)]] w (RepR (repT φ t) w) := by
  obtain ⟨i0, hi, hz0, hz1, hz2⟩ := info_parts Tryz.info28
  induction t using Tm.ind with
  | h n l ih =>
    intro B w sv hB h hnm hz HF
    dsimp only [Tm.args, Tm.nm] at h hnm ⊢
    obtain ⟨p, c, rfl, hn, hc, hm, hR⟩ := h.row
    have hls := len_size l
    simp only [sizeT] at hz
    obtain ⟨W2, hW2⟩ : ∃ W2, W2 = (w.alloc (.cells #[.string n, .slice p l.length c] 27)).alloc (.cells #[.string ⟨#[]⟩, .slice none 0 0] 27) := ⟨_, rfl⟩
    have G2 : Gr w W2 := by rw [hW2]; exact (Gr.alloc _ _).more _
    have hz2w : w.heap.size + 2 ≤ W2.heap.size := by rw [hW2]; simp
    have H2 : Hid (Has W2 w.heap.size #[.string n, .slice p l.length c]) := Lib.hid (by rw [hW2]; exact (Has.new w _ _).alloc _)
    have E2 : Hid (Has W2 (w.heap.size + 1) #[.string ⟨#[]⟩, .slice none 0 0]) := Lib.hid (by rw [hW2]; exact Has.new1 w _ _ _)
    have hmf := @hmf0
    by_cases h0 : l = []
    · subst h0
      have e1 : repT φ (.mk n []) = φ n := by simp [repT]
      rw [e1]
      have CF := Lib.hid (HF W2 n G2.1 hnm)
      clear ih hR h hz HF hls
      generalize φ n = u at *
      unfold RepR at CF ⊢
      simp only [List.length_nil] at hW2 H2
      go_enter Tryz.func45, Tryz.ntmps45
      go_upto_region 1 with fail
      rw [← hW2]
      clear hW2
      obtain ⟨x1, x2, x3, x4, x5⟩ := H2.out.two
      go_wp2_with fail
      refine CF.out.mono ?_
      rintro e w3 ⟨q, d, rfl, hS, hnu, hb⟩
      have B3 := Lib.hid (next0 G2.1 hb)
      obtain ⟨y1, y2, y3, y4, y5⟩ := (E2.out.step0 hb).two
      have r1 := (E2.out.step0 hb).put0 (.string u.nm) (.slice q u.args.length d)
      have r2 := (E2.out.step0 hb).put1 (.string u.nm) (.slice q u.args.length d)
      have S4 := Lib.hid (((hS.weaken (ok' := fun b => W2.heap.size ≤ b ∧ b < w3.heap.size) (fun b hb => hb)).frame (w' := (w3.setCell ⟨w.heap.size + 1, 0, none⟩ (.string u.nm)).setCell ⟨w.heap.size + 1, 1, none⟩ (.slice q u.args.length d)) (fun b o hb => by
        rw [cell_far (by show b ≠ w.heap.size + 1; omega), cell_far (by show b ≠ w.heap.size + 1; omega)])))
      have D4 := Lib.hid ((B3.out.setCell (p := ⟨w.heap.size + 1, 0, none⟩) (by simp) (.string u.nm)).setCell (p := ⟨w.heap.size + 1, 1, none⟩) (by simp) (.slice q u.args.length d))
      have HNU := Lib.hid hnu
      clear hS hb B3 hnu CF x1 x2 x3 x4
      go_wp2_with fail
      refine bodyPost_ret (v := .agg #[.string u.nm, .slice q u.args.length d]) (by simp [results, Tryz.results45, go_sem, y1, y2]) rfl ?_
      exact ⟨q, d, rfl, S4.out.weaken (fun b hb => ⟨by omega, by simpa [World.setCell] using hb.2⟩), HNU.out, D4.out⟩
    · have hne : l.isEmpty = false := by cases l <;> simp_all
      have e1 : repT φ (.mk n l) = .mk n (l.map (repT φ)) := by rw [repT, if_neg (by simp [hne]), repL_map]
      rw [e1]
      have hlp : 0 < l.length := List.length_pos_iff.2 h0
      obtain ⟨wm, M, O, G⟩ := run_make_full (P := Tryz.prog) W2 W2.heap.size 25 27 i0 _ 2 Tryz.underlying25 hi hz0 hz1 .i64 .i64 l.length (by rw [hz2]; omega) (by unfold maxLen; omega) (Nat.le_refl _)
      have O0 : Hid (wm.ownsRow W2.heap.size 27 2 (.slice (some ⟨W2.heap.size, 0, none⟩) l.length l.length) l.length (flatL [] ++ restL l.length)) := Lib.hid (by rw [made_rest] at O; exact O)
      have Bm := Lib.hid (next0 G2.1 ((Below.refl W2.heap.size W2).grown G (Nat.le_refl _) (fun k h => by cases h)))
      have Hm := Lib.hid (Has.grown H2.out G (by simp))
      have Em := Lib.hid (Has.grown E2.out G (by simp))
      have IH : Hid (∀ t ∈ l, ∀ (w' : World) (v : Value), Below w.heap.size w w' → SlIn (· < B) w' t.args v → t.nm.size ≤ maxLen → Calls Tryz.prog 45 #[.agg #[.string t.nm, v], .func (.func 79) #[] #[.pointer (some ⟨g, 0, none⟩)]] w' (RepR (repT φ t) w')) :=
        Lib.hid (fun t hk w' v hb h hn => ih t hk B w' v (Nat.le_trans hB hb.size) h hn (by have := size_mem hk; omega) (fun w2 n2 hb2 hn2 => HF w2 n2 (next0 hb hb2) hn2))
      have TK : Hid (∀ k t, l[k]? = some t → (l.take (k + 1)).map (repT φ) = (l.take k).map (repT φ) ++ [repT φ t]) := Lib.hid (fun k t h => by rw [take_get l k t h]; simp)
      have FT : Hid ((l.take l.length).map (repT φ) = l.map (repT φ)) := Lib.hid (by simp)
      have HB := Lib.hid hB
      have HR := Lib.hid hR
      have HNM := Lib.hid hnm
      have hlb : l.length ≤ 1000000 := by omega
      have ll : Hid ((l.map (repT φ)).length = l.length) := Lib.hid (by simp)
      unfold RepR
      dsimp only [Tm.nm, Tm.args]
      rw [ll.out]
      generalize hm' : l.length = m at *
      have HM := Lib.hid hm'
      clear ih hR h hm' hn hls hz HF O G ll
      have hm0 : ((m : Int) == 0) = false := by rw [beq_eq_false_iff_ne]; omega
      go_enter Tryz.func45, Tryz.ntmps45
      go_upto_region 1 with fail
      rw [← hW2]
      clear hW2
      obtain ⟨x1, x2, x3, x4, x5⟩ := H2.out.two
      go_upto_region 3 with fail
      go_upto_region 4 with fail
      clear x1 x2 x3 x4 x5
      obtain ⟨x1, x2, x3, x4, x5⟩ := Hm.out.two
      go_wp2_with fail
      go_loopw [23] (fun i wr => ∃ (k : Nat) (L : List (Tm × Value)), k ≤ m ∧ i = .int .i64 k ∧ Hid (L.map (·.1) = (l.take k).map (repT φ)) ∧ Hid (wr.ownsRow W2.heap.size 27 2 (.slice (some ⟨W2.heap.size, 0, none⟩) m m) m (flatL L ++ restL (m - k))) ∧ Hid (∀ x ∈ L, SlIn (fun b => W2.heap.size < b ∧ b < wr.heap.size) wr x.1.args x.2 ∧ x.1.nm.size ≤ maxLen) ∧ Hid (Has wr w.heap.size #[.string n, .slice p m c]) ∧ Hid (Has wr (w.heap.size + 1) #[.string ⟨#[]⟩, .slice none 0 0]) ∧ Hid (Below w.heap.size w wr) ∧ W2.heap.size < wr.heap.size) (fun i _ => m - (intOf i).toNat)
      case atStart => exact ⟨0, [], Nat.zero_le _, rfl, Lib.hid rfl, O0, Lib.hid (fun x hx => absurd hx (List.not_mem_nil)), Hm, Em, Bm, (World.ownsRow.lt O0.out _ rfl).2⟩
      case round =>
        obtain ⟨k, L, hk, rfl, hL, hO, hI, hH, hE, hD, hsz⟩ := hrel
        have hLl : L.length = k := by
          have := congrArg List.length hL.out
          rw [List.length_map, List.length_map, List.length_take, HM.out] at this
          omega
        by_cases hlt : k < m
        · obtain ⟨t, b, o, q, d, ht, rfl, hb, c1, c2, hs, hts⟩ := (Row.deep HR.out hD.out HB.out) k (by rw [HM.out]; exact hlt)
          have TT := Lib.hid (TK.out k t ht)
          obtain ⟨W4, hW4⟩ : ∃ W4, W4 = wr.alloc (.cells #[.string t.nm, .slice q t.args.length d] 27) := ⟨_, rfl⟩
          have D4 : Below w.heap.size w W4 := by rw [hW4]; exact next0 hD.out (below_alloc _ _)
          have k4 : Below wr.heap.size wr W4 := by rw [hW4]; exact below_alloc _ _
          have hz4 : W4.heap.size = wr.heap.size + 1 := by rw [hW4]; simp
          obtain ⟨y1, y2, _⟩ := (show Has W4 wr.heap.size #[.string t.nm, .slice q t.args.length d] by rw [hW4]; exact Has.new _ _ _).two
          have CI := Lib.hid (IH.out t (List.mem_of_getElem? ht) W4 _ D4 (hs.deep k4 (Nat.le_trans HB.out hD.out.size)) hts)
          have DD := Lib.hid D4
          have KK4 := Lib.hid k4
          clear hs hts ht D4 k4
          generalize t.nm = tn at *
          generalize t.args.length = ta at *
          generalize repT φ t = u at *
          unfold RepR at CI
          go_upto_region 7 with fail
          rw [← hW4]
          clear hW4 c1 c2
          go_wp2_with fail
          refine CI.out.mono ?_
          rintro e w5 ⟨q5, d5, rfl, hS5, hn5, hb5⟩
          have B5 := Lib.hid (next0 DD.out hb5)
          have K5 := Lib.hid (next0 KK4.out hb5)
          have O5 := Lib.hid (own_bel hO.out K5.out (fun g h => by cases h; exact hsz))
          have HO5 := Lib.hid (Has.step0 hH.out K5.out)
          have E5 := Lib.hid (Has.step0 hE.out K5.out)
          have I5 : Hid (∀ x ∈ L, SlIn (fun b => W2.heap.size < b ∧ b < w5.heap.size) w5 x.1.args x.2 ∧ x.1.nm.size ≤ maxLen) := Lib.hid (fun x hx => ⟨((hI.out x hx).1.frame fun b o hb => K5.out.cell (p := ⟨b, o, none⟩) hb.2).weaken fun b hb => ⟨hb.1, Nat.lt_of_lt_of_le hb.2 K5.out.size⟩, (hI.out x hx).2⟩)
          have S5 := Lib.hid hS5
          have N5 := Lib.hid hn5
          have hz5 : wr.heap.size + 1 ≤ w5.heap.size := by have := hb5.size; omega
          clear hS5 hn5 hb5 CI y1 y2 DD
          obtain ⟨r1, r2⟩ := rest_at L (m - k) (by omega)
          rw [hLl] at r1 r2
          have z1 := (O5.out.cellAt (k * 2) (by omega)).trans r1
          have z2 := (O5.out.cellAt (k * 2 + 1) (by omega)).trans r2
          have f1 := O5.out.frozenAt (k * 2)
          have f2 := O5.out.frozenAt (k * 2 + 1)
          have ST1 := Lib.hid (O5.out.stored (k * 2) (.string u.nm))
          have ST2 := Lib.hid (ST1.out.1.stored (k * 2 + 1) (.slice q5 u.args.length d5))
          have hgb : W2.heap.size < w5.heap.size := by omega
          have NX := Lib.hid (rest_set L u (.slice q5 u.args.length d5) (m - k) (by omega))
          rw [hLl] at NX
          clear r1 r2
          have FAR : Hid (∀ b o, b ≠ W2.heap.size → ((w5.setCell ⟨W2.heap.size, k * 2, none⟩ (.string u.nm)).setCell ⟨W2.heap.size, k * 2 + 1, none⟩ (.slice q5 u.args.length d5)).cell? ⟨b, o, none⟩ = w5.cell? ⟨b, o, none⟩) := Lib.hid (fun b o hb => by rw [cell_far hb, cell_far hb])
          have fin : Hid (∀ w6, w6 = (w5.setCell ⟨W2.heap.size, k * 2, none⟩ (.string u.nm)).setCell ⟨W2.heap.size, k * 2 + 1, none⟩ (.slice q5 u.args.length d5) → 
              Hid ((L ++ [(u, Value.slice q5 u.args.length d5)]).map (·.1) = (l.take (k + 1)).map (repT φ)) ∧ Hid (w6.ownsRow W2.heap.size 27 2 (.slice (some ⟨W2.heap.size, 0, none⟩) m m) m (flatL (L ++ [(u, Value.slice q5 u.args.length d5)]) ++ restL (m - (k + 1)))) ∧ Hid (∀ x ∈ L ++ [(u, Value.slice q5 u.args.length d5)], SlIn (fun b => W2.heap.size < b ∧ b < w6.heap.size) w6 x.1.args x.2 ∧ x.1.nm.size ≤ maxLen) ∧ Hid (Has w6 w.heap.size #[.string n, .slice (some ⟨b, o, none⟩) m c]) ∧ Hid (Has w6 (w.heap.size + 1) #[.string ⟨#[]⟩, .slice none 0 0]) ∧ Hid (Below w.heap.size w w6) ∧ W2.heap.size < w6.heap.size) := Lib.hid (by
            rintro w6 rfl
            refine ⟨Lib.hid (by rw [List.map_append, hL.out, TT.out]; rfl), Lib.hid (by have := ST2.out.1; rw [NX.out] at this; rw [show m - (k + 1) = m - k - 1 by omega]; exact this), Lib.hid (fun x hx => ?_), Lib.hid ((HO5.out.far (by show w.heap.size ≠ W2.heap.size; omega) _).far (by show w.heap.size ≠ W2.heap.size; omega) _), Lib.hid ((E5.out.far (by show w.heap.size + 1 ≠ W2.heap.size; omega) _).far (by show w.heap.size + 1 ≠ W2.heap.size; omega) _), Lib.hid ((B5.out.setCell (by show w.heap.size ≤ W2.heap.size; omega) _).setCell (by show w.heap.size ≤ W2.heap.size; omega) _), by simpa [World.setCell] using hgb⟩
            rcases List.mem_append.1 hx with hx | hx
            · exact ⟨((I5.out x hx).1.frame fun b o hb => FAR.out b o (by omega)).weaken fun b hb => ⟨hb.1, by simpa [World.setCell] using hb.2⟩, (I5.out x hx).2⟩
            · obtain rfl := List.mem_singleton.1 hx
              exact ⟨((S5.out.weaken (ok' := fun b => W2.heap.size < b ∧ b < w5.heap.size) fun b hb => ⟨by omega, hb.2⟩).frame fun b o hb => FAR.out b o (by omega)).weaken fun b hb => ⟨hb.1, by simpa [World.setCell] using hb.2⟩, N5.out⟩)
          clear ST1 ST2 NX FAR I5 S5 N5 HO5 E5 hI hO hH hE hL TT K5 KK4
          go_wp2_with fail
          go_roundw
          case rel => exact ⟨k + 1, _, by omega, by go_num, fin.out _ rfl⟩
          case measure => simp [intOf]; omega
        · obtain rfl : k = m := by omega
          have HL : Hid (L.map (·.1) = l.map (repT φ)) := Lib.hid (by rw [hL.out, FT.out])
          have OW := hO.out
          rw [Nat.sub_self, show restL 0 = [] from rfl, List.append_nil] at OW
          obtain ⟨x1, x2, _, _, x5⟩ := hH.out.two
          obtain ⟨y1, y2, y3, y4, y5⟩ := hE.out.two
          have r1 := hE.out.put0 (.string n) (.slice (some ⟨W2.heap.size, 0, none⟩) k k)
          have r2 := hE.out.put1 (.string n) (.slice (some ⟨W2.heap.size, 0, none⟩) k k)
          have S4 : Hid (SlIn (fun b => w.heap.size ≤ b ∧ b < ((wr.setCell ⟨w.heap.size + 1, 0, none⟩ (.string n)).setCell ⟨w.heap.size + 1, 1, none⟩ (.slice (some ⟨W2.heap.size, 0, none⟩) k k)).heap.size) ((wr.setCell ⟨w.heap.size + 1, 0, none⟩ (.string n)).setCell ⟨w.heap.size + 1, 1, none⟩ (.slice (some ⟨W2.heap.size, 0, none⟩) k k)) (l.map (repT φ)) (.slice (some ⟨W2.heap.size, 0, none⟩) k k)) := Lib.hid (by
            rw [← HL.out]
            have := slin_own hLl OW hI.out hsz
            exact (this.frame fun b o hb => by rw [cell_far (by show b ≠ w.heap.size + 1; omega), cell_far (by show b ≠ w.heap.size + 1; omega)]).weaken fun b hb => ⟨by omega, by simpa [World.setCell] using hb.2⟩)
          have D4 := Lib.hid ((hD.out.setCell (p := ⟨w.heap.size + 1, 0, none⟩) (by simp) (.string n)).setCell (p := ⟨w.heap.size + 1, 1, none⟩) (by simp) (.slice (some ⟨W2.heap.size, 0, none⟩) k k))
          clear OW hO hI hL HL hD hLl
          go_wp2_with fail
          refine bodyPost_ret (v := .agg #[.string n, .slice (some ⟨W2.heap.size, 0, none⟩) k k]) (by simp [results, Tryz.results45, go_sem, y1, y2]) rfl ?_
          exact ⟨_, _, rfl, S4.out, HNM.out, D4.out⟩
def RpR (sv : Value) (w : World) (e : Ending) (w' : World) : Prop := ∃ g : Nat, e = .returned (.func (.func 79) #[] #[.pointer (some ⟨g, 0, none⟩)]) ∧ Has w' g #[sv] ∧ Below w.heap.size w w'
theorem replacer_mk (sv : Value) (p : Option Addr) (n c : Nat) (hv : sv = .slice p n c) (w : World) : Calls Tryz.prog 46 #[sv] w (RpR sv w) := by
  subst hv
  have hmf := @hmf0
  unfold RpR
  go_enter Tryz.func46, Tryz.ntmps46
  go_wp2_with fail
  go_ret
  exact ⟨_, rfl, Has.new w _ _, below_alloc w _⟩
set_option maxRecDepth 100000 in
set_option maxHeartbeats 6400000 in
theorem apply_any (s : List Bd) (hS : Srt s) (hsz : Sz s) (t : Tm) (B : Nat) (w : World) (sv tv : Value) (hB : B ≤ w.heap.size) (hs : SIn (· < B) w s sv) (h : SlIn (· < B) w t.args tv) (hn : t.nm.size ≤ maxLen) (hz : sizeT t ≤ 1000000) :
    Calls Tryz.prog 20 #[sv, .agg #[.string t.nm, tv]] w (RepR (appT s t) w) := by
  obtain ⟨p, c, rfl⟩ := h.form
  obtain ⟨ps, cs, hsv⟩ := hs.form
  have CB := Lib.hid (fun (w' : World) (g : Nat) (k : Below w.heap.size w w') (hg : Has w' g #[sv]) => by
    have := replace_any g (leafS s) t B w' (.slice p t.args.length c) (Nat.le_trans hB k.size) (h.deep k hB) hn hz (fun w'' n k2 hn2 => replacer_any s n hn2 hS hsz B g w'' sv (Nat.le_trans hB (next0 k k2).size) (hs.deep (next0 k k2) hB) (hg.step0 k2))
    rw [rep_app] at this
    exact this)
  have CA := Lib.hid (fun w' => replacer_mk sv ps s.length cs hsv w')
  obtain ⟨W2, hW2⟩ : ∃ W2, W2 = (w.alloc (.cells #[.string t.nm, .slice p t.args.length c] 27)).alloc (.cells #[.string ⟨#[]⟩, .slice none 0 0] 27) := ⟨_, rfl⟩
  have G2 : Gr w W2 := by rw [hW2]; exact (Gr.alloc _ _).more _
  have hz2w : w.heap.size + 2 ≤ W2.heap.size := by rw [hW2]; simp
  have H2 : Hid (Has W2 w.heap.size #[.string t.nm, .slice p t.args.length c]) := Lib.hid (by rw [hW2]; exact (Has.new w _ _).alloc _)
  have E2 : Hid (Has W2 (w.heap.size + 1) #[.string ⟨#[]⟩, .slice none 0 0]) := Lib.hid (by rw [hW2]; exact Has.new1 w _ _ _)
  have GG := Lib.hid G2
  have CB := Lib.hid (fun (w' : World) (g : Nat) (k : Below W2.heap.size W2 w') (hg : Has w' g #[sv]) => CB.out w' g (next0 G2.1 k) hg)
  have HB2 := Lib.hid (fun (w' : World) (k : Below W2.heap.size W2 w') => (H2.out.step0 k).two)
  have HE2 := Lib.hid (fun (w' : World) (k : Below W2.heap.size W2 w') => E2.out.step0 k)
  clear h hs hB hz hn hS hsz G2 hsv
  generalize appT s t = u at *
  generalize t.nm = tn at *
  generalize t.args.length = ta at *
  unfold RpR at CA
  unfold RepR at CB ⊢
  obtain ⟨y1, y2, y3, y4, y5⟩ := HB2.out W2 (Below.refl _ _)
  go_enter Tryz.func20, Tryz.ntmps20
  go_upto_region 1 with fail
  rw [← hW2]
  clear hW2
  go_region_with (first
    | (go_at_call 46; (with_reducible refine (CA.out _).mono ?_); rintro e w3 ⟨g, rfl, hH, hb⟩; have D3 : Hid (Below W2.heap.size W2 w3) := Lib.hid (by first | exact hb | exact next0 (Below.refl _ _).drew hb | exact next0 (below_drewN (Below.refl _ _) _) hb); have HG := Lib.hid hH; clear hb hH; obtain ⟨z1, z2, z3, z4, z5⟩ := HB2.out _ D3.out)
    | (go_at_call 45; (with_reducible refine (CB.out _ _ (by first | exact D3.out | exact D3.out.drew | exact below_drewN D3.out _) (by exact HG.out)).mono ?_); rintro e w4 ⟨q, d, rfl, hS, hnu, hb⟩; have D4 : Hid (Below W2.heap.size W2 w4) := Lib.hid (by first | exact next0 D3.out hb | exact next0 D3.out.drew hb | exact next0 (below_drewN D3.out _) hb); have S4 := Lib.hid (hS.weaken (ok' := fun b => W2.heap.size ≤ b ∧ b < w4.heap.size) (fun b hb2 => ⟨Nat.le_trans D3.out.size hb2.1, hb2.2⟩)); have NU := Lib.hid hnu; have E4 := Lib.hid (HE2.out _ D4.out); clear hS hnu hb; obtain ⟨u1, u2, u3, u4, u5⟩ := E4.out.two))
  all_goals
    have r1 := E4.out.put0 (.string u.nm) (.slice q u.args.length d)
    have r2 := E4.out.put1 (.string u.nm) (.slice q u.args.length d)
    have S5 := Lib.hid (S4.out.frame (w' := (w4.setCell ⟨w.heap.size + 1, 0, none⟩ (.string u.nm)).setCell ⟨w.heap.size + 1, 1, none⟩ (.slice q u.args.length d)) (fun b o hb => by
      rw [cell_far (by show b ≠ w.heap.size + 1; omega), cell_far (by show b ≠ w.heap.size + 1; omega)]))
    have D5 := Lib.hid (((next0 GG.out.1 D4.out).setCell (p := ⟨w.heap.size + 1, 0, none⟩) (by simp) (.string u.nm)).setCell (p := ⟨w.heap.size + 1, 1, none⟩) (by simp) (.slice q u.args.length d))
    go_wp2_with fail
    refine bodyPost_ret (v := .agg #[.string u.nm, .slice q u.args.length d]) (by simp [results, Tryz.results20, go_sem, r1, r2]) rfl ?_
    exact ⟨q, d, rfl, S5.out.weaken (fun b hb => ⟨by omega, by simpa [World.setCell] using hb.2⟩), NU.out, D5.out⟩
end UniF
end Go.Proofs.YtjfgnmmcdgpiiaaGreatDoor
/- Renaming of the leaves of a rule without a body: replace with Rename's closure. Condition: at most a million parts. Made by genunmh.py. -/
namespace Go.Proofs.YtjfgnmmcdgpiiaaGreatDoor
open Go Go.RowKit Go.Maps Go.WideMaps
namespace UnmH
open LexM TermM TermI Kit TermN TermU UniK UniM UniA UniC UniD UniE UnmA UnmD
set_option maxRecDepth 100000 in
set_option maxHeartbeats 6400000 in
theorem replace_any (g : Nat) (φ : ByteArray → Tm) (t : Tm) : ∀ (B : Nat) (w : World) (sv : Value), B ≤ w.heap.size → SlIn (· < B) w t.args sv → t.nm.size ≤ maxLen → sizeT t ≤ 1000000 →
    (∀ (w' : World) (n : ByteArray), Below w.heap.size w w' → n.size ≤ maxLen → Calls Tryz.prog 64 #[.string n, .pointer (some ⟨g, 0, none⟩)] w' (RepR (φ n) w')) →
    Calls Tryz.prog 45 #[.agg #[.string t.nm, sv], .func (.func 64) #[] #[.pointer (some ⟨g, 0, none⟩)]] w (RepR (repT φ t) w) := by
  obtain ⟨i0, hi, hz0, hz1, hz2⟩ := info_parts Tryz.info28
  induction t using Tm.ind with
  | h n l ih =>
    intro B w sv hB h hnm hz HF
    dsimp only [Tm.args, Tm.nm] at h hnm ⊢
    obtain ⟨p, c, rfl, hn, hc, hm, hR⟩ := h.row
    have hls := len_size l
    simp only [sizeT] at hz
    obtain ⟨W2, hW2⟩ : ∃ W2, W2 = (w.alloc (.cells #[.string n, .slice p l.length c] 27)).alloc (.cells #[.string ⟨#[]⟩, .slice none 0 0] 27) := ⟨_, rfl⟩
    have G2 : Gr w W2 := by rw [hW2]; exact (Gr.alloc _ _).more _
    have hz2w : w.heap.size + 2 ≤ W2.heap.size := by rw [hW2]; simp
    have H2 : Hid (Has W2 w.heap.size #[.string n, .slice p l.length c]) := Lib.hid (by rw [hW2]; exact (Has.new w _ _).alloc _)
    have E2 : Hid (Has W2 (w.heap.size + 1) #[.string ⟨#[]⟩, .slice none 0 0]) := Lib.hid (by rw [hW2]; exact Has.new1 w _ _ _)
    have hmf := @hmf0
    by_cases h0 : l = []
    · subst h0
      have e1 : repT φ (.mk n []) = φ n := by simp [repT]
      rw [e1]
      have CF := Lib.hid (HF W2 n G2.1 hnm)
      clear ih hR h hz HF hls
      generalize φ n = u at *
      unfold RepR at CF ⊢
      simp only [List.length_nil] at hW2 H2
      go_enter Tryz.func45, Tryz.ntmps45
      go_upto_region 1 with fail
      rw [← hW2]
      clear hW2
      obtain ⟨x1, x2, x3, x4, x5⟩ := H2.out.two
      go_wp2_with fail
      refine CF.out.mono ?_
      rintro e w3 ⟨q, d, rfl, hS, hnu, hb⟩
      have B3 := Lib.hid (next0 G2.1 hb)
      obtain ⟨y1, y2, y3, y4, y5⟩ := (E2.out.step0 hb).two
      have r1 := (E2.out.step0 hb).put0 (.string u.nm) (.slice q u.args.length d)
      have r2 := (E2.out.step0 hb).put1 (.string u.nm) (.slice q u.args.length d)
      have S4 := Lib.hid (((hS.weaken (ok' := fun b => W2.heap.size ≤ b ∧ b < w3.heap.size) (fun b hb => hb)).frame (w' := (w3.setCell ⟨w.heap.size + 1, 0, none⟩ (.string u.nm)).setCell ⟨w.heap.size + 1, 1, none⟩ (.slice q u.args.length d)) (fun b o hb => by
        rw [cell_far (by show b ≠ w.heap.size + 1; omega), cell_far (by show b ≠ w.heap.size + 1; omega)])))
      have D4 := Lib.hid ((B3.out.setCell (p := ⟨w.heap.size + 1, 0, none⟩) (by simp) (.string u.nm)).setCell (p := ⟨w.heap.size + 1, 1, none⟩) (by simp) (.slice q u.args.length d))
      have HNU := Lib.hid hnu
      clear hS hb B3 hnu CF x1 x2 x3 x4
      go_wp2_with fail
      refine bodyPost_ret (v := .agg #[.string u.nm, .slice q u.args.length d]) (by simp [results, Tryz.results45, go_sem, y1, y2]) rfl ?_
      exact ⟨q, d, rfl, S4.out.weaken (fun b hb => ⟨by omega, by simpa [World.setCell] using hb.2⟩), HNU.out, D4.out⟩
    · have hne : l.isEmpty = false := by cases l <;> simp_all
      have e1 : repT φ (.mk n l) = .mk n (l.map (repT φ)) := by rw [repT, if_neg (by simp [hne]), repL_map]
      rw [e1]
      have hlp : 0 < l.length := List.length_pos_iff.2 h0
      obtain ⟨wm, M, O, G⟩ := run_make_full (P := Tryz.prog) W2 W2.heap.size 25 27 i0 _ 2 Tryz.underlying25 hi hz0 hz1 .i64 .i64 l.length (by rw [hz2]; omega) (by unfold maxLen; omega) (Nat.le_refl _)
      have O0 : Hid (wm.ownsRow W2.heap.size 27 2 (.slice (some ⟨W2.heap.size, 0, none⟩) l.length l.length) l.length (flatL [] ++ restL l.length)) := Lib.hid (by rw [made_rest] at O; exact O)
      have Bm := Lib.hid (next0 G2.1 ((Below.refl W2.heap.size W2).grown G (Nat.le_refl _) (fun k h => by cases h)))
      have Hm := Lib.hid (Has.grown H2.out G (by simp))
      have Em := Lib.hid (Has.grown E2.out G (by simp))
      have IH : Hid (∀ t ∈ l, ∀ (w' : World) (v : Value), Below w.heap.size w w' → SlIn (· < B) w' t.args v → t.nm.size ≤ maxLen → Calls Tryz.prog 45 #[.agg #[.string t.nm, v], .func (.func 64) #[] #[.pointer (some ⟨g, 0, none⟩)]] w' (RepR (repT φ t) w')) :=
        Lib.hid (fun t hk w' v hb h hn => ih t hk B w' v (Nat.le_trans hB hb.size) h hn (by have := size_mem hk; omega) (fun w2 n2 hb2 hn2 => HF w2 n2 (next0 hb hb2) hn2))
      have TK : Hid (∀ k t, l[k]? = some t → (l.take (k + 1)).map (repT φ) = (l.take k).map (repT φ) ++ [repT φ t]) := Lib.hid (fun k t h => by rw [take_get l k t h]; simp)
      have FT : Hid ((l.take l.length).map (repT φ) = l.map (repT φ)) := Lib.hid (by simp)
      have HB := Lib.hid hB
      have HR := Lib.hid hR
      have HNM := Lib.hid hnm
      have hlb : l.length ≤ 1000000 := by omega
      have ll : Hid ((l.map (repT φ)).length = l.length) := Lib.hid (by simp)
      unfold RepR
      dsimp only [Tm.nm, Tm.args]
      rw [ll.out]
      generalize hm' : l.length = m at *
      have HM := Lib.hid hm'
      clear ih hR h hm' hn hls hz HF O G ll
      have hm0 : ((m : Int) == 0) = false := by rw [beq_eq_false_iff_ne]; omega
      go_enter Tryz.func45, Tryz.ntmps45
      go_upto_region 1 with fail
      rw [← hW2]
      clear hW2
      obtain ⟨x1, x2, x3, x4, x5⟩ := H2.out.two
      go_upto_region 3 with fail
      go_upto_region 4 with fail
      clear x1 x2 x3 x4 x5
      obtain ⟨x1, x2, x3, x4, x5⟩ := Hm.out.two
      go_wp2_with fail
      go_loopw [23] (fun i wr => ∃ (k : Nat) (L : List (Tm × Value)), k ≤ m ∧ i = .int .i64 k ∧ Hid (L.map (·.1) = (l.take k).map (repT φ)) ∧ Hid (wr.ownsRow W2.heap.size 27 2 (.slice (some ⟨W2.heap.size, 0, none⟩) m m) m (flatL L ++ restL (m - k))) ∧ Hid (∀ x ∈ L, SlIn (fun b => W2.heap.size < b ∧ b < wr.heap.size) wr x.1.args x.2 ∧ x.1.nm.size ≤ maxLen) ∧ Hid (Has wr w.heap.size #[.string n, .slice p m c]) ∧ Hid (Has wr (w.heap.size + 1) #[.string ⟨#[]⟩, .slice none 0 0]) ∧ Hid (Below w.heap.size w wr) ∧ W2.heap.size < wr.heap.size) (fun i _ => m - (intOf i).toNat)
      case atStart => exact ⟨0, [], Nat.zero_le _, rfl, Lib.hid rfl, O0, Lib.hid (fun x hx => absurd hx (List.not_mem_nil)), Hm, Em, Bm, (World.ownsRow.lt O0.out _ rfl).2⟩
      case round =>
        obtain ⟨k, L, hk, rfl, hL, hO, hI, hH, hE, hD, hsz⟩ := hrel
        have hLl : L.length = k := by
          have := congrArg List.length hL.out
          rw [List.length_map, List.length_map, List.length_take, HM.out] at this
          omega
        by_cases hlt : k < m
        · obtain ⟨t, b, o, q, d, ht, rfl, hb, c1, c2, hs, hts⟩ := (Row.deep HR.out hD.out HB.out) k (by rw [HM.out]; exact hlt)
          have TT := Lib.hid (TK.out k t ht)
          obtain ⟨W4, hW4⟩ : ∃ W4, W4 = wr.alloc (.cells #[.string t.nm, .slice q t.args.length d] 27) := ⟨_, rfl⟩
          have D4 : Below w.heap.size w W4 := by rw [hW4]; exact next0 hD.out (below_alloc _ _)
          have k4 : Below wr.heap.size wr W4 := by rw [hW4]; exact below_alloc _ _
          have hz4 : W4.heap.size = wr.heap.size + 1 := by rw [hW4]; simp
          obtain ⟨y1, y2, _⟩ := (show Has W4 wr.heap.size #[.string t.nm, .slice q t.args.length d] by rw [hW4]; exact Has.new _ _ _).two
          have CI := Lib.hid (IH.out t (List.mem_of_getElem? ht) W4 _ D4 (hs.deep k4 (Nat.le_trans HB.out hD.out.size)) hts)
          have DD := Lib.hid D4
          have KK4 := Lib.hid k4
          clear hs hts ht D4 k4
          generalize t.nm = tn at *
          generalize t.args.length = ta at *
          generalize repT φ t = u at *
          unfold RepR at CI
          go_upto_region 7 with fail
          rw [← hW4]
          clear hW4 c1 c2
          go_wp2_with fail
          refine CI.out.mono ?_
          rintro e w5 ⟨q5, d5, rfl, hS5, hn5, hb5⟩
          have B5 := Lib.hid (next0 DD.out hb5)
          have K5 := Lib.hid (next0 KK4.out hb5)
          have O5 := Lib.hid (own_bel hO.out K5.out (fun g h => by cases h; exact hsz))
          have HO5 := Lib.hid (Has.step0 hH.out K5.out)
          have E5 := Lib.hid (Has.step0 hE.out K5.out)
          have I5 : Hid (∀ x ∈ L, SlIn (fun b => W2.heap.size < b ∧ b < w5.heap.size) w5 x.1.args x.2 ∧ x.1.nm.size ≤ maxLen) := Lib.hid (fun x hx => ⟨((hI.out x hx).1.frame fun b o hb => K5.out.cell (p := ⟨b, o, none⟩) hb.2).weaken fun b hb => ⟨hb.1, Nat.lt_of_lt_of_le hb.2 K5.out.size⟩, (hI.out x hx).2⟩)
          have S5 := Lib.hid hS5
          have N5 := Lib.hid hn5
          have hz5 : wr.heap.size + 1 ≤ w5.heap.size := by have := hb5.size; omega
          clear hS5 hn5 hb5 CI y1 y2 DD
          obtain ⟨r1, r2⟩ := rest_at L (m - k) (by omega)
          rw [hLl] at r1 r2
          have z1 := (O5.out.cellAt (k * 2) (by omega)).trans r1
          have z2 := (O5.out.cellAt (k * 2 + 1) (by omega)).trans r2
          have f1 := O5.out.frozenAt (k * 2)
          have f2 := O5.out.frozenAt (k * 2 + 1)
          have ST1 := Lib.hid (O5.out.stored (k * 2) (.string u.nm))
          have ST2 := Lib.hid (ST1.out.1.stored (k * 2 + 1) (.slice q5 u.args.length d5))
          have hgb : W2.heap.size < w5.heap.size := by omega
          have NX := Lib.hid (rest_set L u (.slice q5 u.args.length d5) (m - k) (by omega))
          rw [hLl] at NX
          clear r1 r2
          have FAR : Hid (∀ b o, b ≠ W2.heap.size → ((w5.setCell ⟨W2.heap.size, k * 2, none⟩ (.string u.nm)).setCell ⟨W2.heap.size, k * 2 + 1, none⟩ (.slice q5 u.args.length d5)).cell? ⟨b, o, none⟩ = w5.cell? ⟨b, o, none⟩) := Lib.hid (fun b o hb => by rw [cell_far hb, cell_far hb])
          have fin : Hid (∀ w6, w6 = (w5.setCell ⟨W2.heap.size, k * 2, none⟩ (.string u.nm)).setCell ⟨W2.heap.size, k * 2 + 1, none⟩ (.slice q5 u.args.length d5) → 
              Hid ((L ++ [(u, Value.slice q5 u.args.length d5)]).map (·.1) = (l.take (k + 1)).map (repT φ)) ∧ Hid (w6.ownsRow W2.heap.size 27 2 (.slice (some ⟨W2.heap.size, 0, none⟩) m m) m (flatL (L ++ [(u, Value.slice q5 u.args.length d5)]) ++ restL (m - (k + 1)))) ∧ Hid (∀ x ∈ L ++ [(u, Value.slice q5 u.args.length d5)], SlIn (fun b => W2.heap.size < b ∧ b < w6.heap.size) w6 x.1.args x.2 ∧ x.1.nm.size ≤ maxLen) ∧ Hid (Has w6 w.heap.size #[.string n, .slice (some ⟨b, o, none⟩) m c]) ∧ Hid (Has w6 (w.heap.size + 1) #[.string ⟨#[]⟩, .slice none 0 0]) ∧ Hid (Below w.heap.size w w6) ∧ W2.heap.size < w6.heap.size) := Lib.hid (by
            rintro w6 rfl
            refine ⟨Lib.hid (by rw [List.map_append, hL.out, TT.out]; rfl), Lib.hid (by have := ST2.out.1; rw [NX.out] at this; rw [show m - (k + 1) = m - k - 1 by omega]; exact this), Lib.hid (fun x hx => ?_), Lib.hid ((HO5.out.far (by show w.heap.size ≠ W2.heap.size; omega) _).far (by show w.heap.size ≠ W2.heap.size; omega) _), Lib.hid ((E5.out.far (by show w.heap.size + 1 ≠ W2.heap.size; omega) _).far (by show w.heap.size + 1 ≠ W2.heap.size; omega) _), Lib.hid ((B5.out.setCell (by show w.heap.size ≤ W2.heap.size; omega) _).setCell (by show w.heap.size ≤ W2.heap.size; omega) _), by simpa [World.setCell] using hgb⟩
            rcases List.mem_append.1 hx with hx | hx
            · exact ⟨((I5.out x hx).1.frame fun b o hb => FAR.out b o (by omega)).weaken fun b hb => ⟨hb.1, by simpa [World.setCell] using hb.2⟩, (I5.out x hx).2⟩
            · obtain rfl := List.mem_singleton.1 hx
              exact ⟨((S5.out.weaken (ok' := fun b => W2.heap.size < b ∧ b < w5.heap.size) fun b hb => ⟨by omega, hb.2⟩).frame fun b o hb => FAR.out b o (by omega)).weaken fun b hb => ⟨hb.1, by simpa [World.setCell] using hb.2⟩, N5.out⟩)
          clear ST1 ST2 NX FAR I5 S5 N5 HO5 E5 hI hO hH hE hL TT K5 KK4
          go_wp2_with fail
          go_roundw
          case rel => exact ⟨k + 1, _, by omega, by go_num, fin.out _ rfl⟩
          case measure => simp [intOf]; omega
        · obtain rfl : k = m := by omega
          have HL : Hid (L.map (·.1) = l.map (repT φ)) := Lib.hid (by rw [hL.out, FT.out])
          have OW := hO.out
          rw [Nat.sub_self, show restL 0 = [] from rfl, List.append_nil] at OW
          obtain ⟨x1, x2, _, _, x5⟩ := hH.out.two
          obtain ⟨y1, y2, y3, y4, y5⟩ := hE.out.two
          have r1 := hE.out.put0 (.string n) (.slice (some ⟨W2.heap.size, 0, none⟩) k k)
          have r2 := hE.out.put1 (.string n) (.slice (some ⟨W2.heap.size, 0, none⟩) k k)
          have S4 : Hid (SlIn (fun b => w.heap.size ≤ b ∧ b < ((wr.setCell ⟨w.heap.size + 1, 0, none⟩ (.string n)).setCell ⟨w.heap.size + 1, 1, none⟩ (.slice (some ⟨W2.heap.size, 0, none⟩) k k)).heap.size) ((wr.setCell ⟨w.heap.size + 1, 0, none⟩ (.string n)).setCell ⟨w.heap.size + 1, 1, none⟩ (.slice (some ⟨W2.heap.size, 0, none⟩) k k)) (l.map (repT φ)) (.slice (some ⟨W2.heap.size, 0, none⟩) k k)) := Lib.hid (by
            rw [← HL.out]
            have := slin_own hLl OW hI.out hsz
            exact (this.frame fun b o hb => by rw [cell_far (by show b ≠ w.heap.size + 1; omega), cell_far (by show b ≠ w.heap.size + 1; omega)]).weaken fun b hb => ⟨by omega, by simpa [World.setCell] using hb.2⟩)
          have D4 := Lib.hid ((hD.out.setCell (p := ⟨w.heap.size + 1, 0, none⟩) (by simp) (.string n)).setCell (p := ⟨w.heap.size + 1, 1, none⟩) (by simp) (.slice (some ⟨W2.heap.size, 0, none⟩) k k))
          clear OW hO hI hL HL hD hLl
          go_wp2_with fail
          refine bodyPost_ret (v := .agg #[.string n, .slice (some ⟨W2.heap.size, 0, none⟩) k k]) (by simp [results, Tryz.results45, go_sem, y1, y2]) rfl ?_
          exact ⟨_, _, rfl, S4.out, HNM.out, D4.out⟩
/-- What the renaming makes of a leaf. -/
def renT (NL : List (Ky × ByteArray)) (n : ByteArray) : Tm := match lookK NL n.data.toList with
  | some s => .mk s []
  | none => .mk n []
def namesV (NL : List (Ky × ByteArray)) : List (Ky × Value) := NL.map fun x => (x.1, Value.string x.2)
set_option maxRecDepth 100000 in
set_option maxHeartbeats 1600000 in
theorem renamer_any (NL : List (Ky × ByteArray)) (bm g k : Nat) (n : ByteArray) (hn : n.size ≤ maxLen) (hNL : ∀ x ∈ NL, x.2.size ≤ maxLen) (w : World) (hM : w.ownsMap Tryz.prog 9 heldE bm k (DataOf (namesV NL))) (hg : Has w g #[.map (some bm)]) :
    Calls Tryz.prog 64 #[.string n, .pointer (some ⟨g, 0, none⟩)] w (RepR (renT NL n) w) := by
  obtain ⟨W1, hW1⟩ : ∃ W1, W1 = w.alloc (.cells #[.string ⟨#[]⟩, .slice none 0 0] 27) := ⟨_, rfl⟩
  have B1 : Hid (Below w.heap.size w W1) := Lib.hid (by rw [hW1]; exact below_alloc _ _)
  have H1 : Hid (Has W1 w.heap.size #[.string ⟨#[]⟩, .slice none 0 0]) := Lib.hid (by rw [hW1]; exact Has.new _ _ _)
  have c0 : W1.cell? ⟨g, 0, none⟩ = some (.map (some bm)) := (hg.step0 B1.out).cell 0
  have hM1 : W1.ownsMap Tryz.prog 9 heldE bm k (DataOf (namesV NL)) := by rw [hW1]; exact hM.alloc _
  have LK := look_held (z := .string ⟨#[]⟩) hM1 Tryz.underlying80 (by kernel_rfl) n hn
  have ER : Hid (renT NL n = match lookK NL n.data.toList with | some s => .mk s [] | none => .mk n []) := Lib.hid rfl
  have HN := Lib.hid hn
  have HS := Lib.hid (fun s (h : lookK NL n.data.toList = some s) => hNL _ (lookK_mem h))
  unfold namesV at LK
  simp only [lookK_map (fun x : ByteArray => Value.string x)] at LK
  rw [Option.isSome_map] at LK
  clear hM1 hM hg hNL hn
  generalize renT NL n = u at *
  unfold RepR
  cases ho : lookK NL n.data.toList with
  | none =>
    rw [ho] at LK
    have EU := ER.out
    rw [ho] at EU
    dsimp only at EU
    subst EU
    simp only [Option.map_none, Option.getD_none, Option.isSome_none] at LK
    clear HS ER ho
    dsimp only [Tm.nm, Tm.args]
    go_enter Tryz.func64, Tryz.ntmps64
    go_upto_region 1 with fail
    rw [← hW1]
    clear hW1
    go_wp2_with fail
    refine (leaf_nil n _).mono ?_
    rintro e w2 ⟨rfl, k2⟩
    have D2 := Lib.hid (next0 B1.out k2)
    have H2 := Lib.hid (H1.out.step0 k2)
    obtain ⟨y1, y2, y3, y4, y5⟩ := H2.out.two
    have r1 := H2.out.put0 (.string n) (.slice none 0 0)
    have r2 := H2.out.put1 (.string n) (.slice none 0 0)
    have D3 := Lib.hid ((D2.out.setCell (p := ⟨w.heap.size, 0, none⟩) (by simp) (.string n)).setCell (p := ⟨w.heap.size, 1, none⟩) (by simp) (.slice none 0 0))
    clear k2
    go_wp2_with fail
    refine bodyPost_ret (v := .agg #[.string n, .slice none 0 0]) (by simp [results, Tryz.results64, go_sem, r1, r2]) rfl ?_
    exact ⟨none, 0, rfl, SlIn.none _ _, HN.out, D3.out⟩
  | some s =>
    rw [ho] at LK
    have EU := ER.out
    rw [ho] at EU
    dsimp only at EU
    subst EU
    have HS1 := Lib.hid (HS.out s ho)
    simp only [Option.map_some, Option.getD_some, Option.isSome_some] at LK
    clear HS ER ho
    dsimp only [Tm.nm, Tm.args]
    go_enter Tryz.func64, Tryz.ntmps64
    go_upto_region 1 with fail
    rw [← hW1]
    clear hW1
    go_wp2_with fail
    refine (leaf_nil s _).mono ?_
    rintro e w2 ⟨rfl, k2⟩
    have D2 := Lib.hid (next0 B1.out k2)
    have H2 := Lib.hid (H1.out.step0 k2)
    obtain ⟨y1, y2, y3, y4, y5⟩ := H2.out.two
    have r1 := H2.out.put0 (.string s) (.slice none 0 0)
    have r2 := H2.out.put1 (.string s) (.slice none 0 0)
    have D3 := Lib.hid ((D2.out.setCell (p := ⟨w.heap.size, 0, none⟩) (by simp) (.string s)).setCell (p := ⟨w.heap.size, 1, none⟩) (by simp) (.slice none 0 0))
    clear k2
    go_wp2_with fail
    refine bodyPost_ret (v := .agg #[.string s, .slice none 0 0]) (by simp [results, Tryz.results64, go_sem, r1, r2]) rfl ?_
    exact ⟨none, 0, rfl, SlIn.none _ _, HS1.out, D3.out⟩
theorem put3 {w : World} {g : Nat} {a b c : Value} (h : Has w g #[a, b, c]) (u v x : Value) : Has (((w.setCell ⟨g, 0, none⟩ u).setCell ⟨g, 1, none⟩ v).setCell ⟨g, 2, none⟩ x) g #[u, v, x] := ((h.set 0 u).set 1 v).set 2 x
/-- A rule without a body: its head comes back in new blocks. -/
def RuR (u : Tm) (w : World) (e : Ending) (w' : World) : Prop :=
  ∃ (p : Option Addr) (c : Nat), e = .returned (.agg #[.string u.nm, .slice p u.args.length c, .slice none 0 0]) ∧ SlIn (fun b => w.heap.size ≤ b ∧ b < w'.heap.size) w' u.args (.slice p u.args.length c) ∧ u.nm.size ≤ maxLen ∧ Below w.heap.size w w'
set_option maxRecDepth 100000 in
set_option maxHeartbeats 1600000 in
theorem rinr_nil (g : Nat) (φ : ByteArray → Tm) (h : Tm) (B : Nat) (w : World) (hv : Value) (hB : B ≤ w.heap.size) (hs : SlIn (· < B) w h.args hv) (hn : h.nm.size ≤ maxLen) (hz : sizeT h ≤ 1000000)
    (HF : ∀ (w' : World) (n : ByteArray), Below w.heap.size w w' → n.size ≤ maxLen → Calls Tryz.prog 64 #[.string n, .pointer (some ⟨g, 0, none⟩)] w' (RepR (φ n) w')) :
    Calls Tryz.prog 48 #[.agg #[.string h.nm, hv, .slice none 0 0], .func (.func 64) #[] #[.pointer (some ⟨g, 0, none⟩)]] w (RuR (repT φ h) w) := by
  obtain ⟨p, c, rfl⟩ := hs.form
  have hmf := @hmf0
  obtain ⟨W2, hW2⟩ : ∃ W2, W2 = (w.alloc (.cells #[.string h.nm, .slice p h.args.length c, .slice none 0 0] 34)).alloc (.cells #[.string ⟨#[]⟩, .slice none 0 0, .slice none 0 0] 34) := ⟨_, rfl⟩
  have B2 : Hid (Below w.heap.size w W2) := Lib.hid (by rw [hW2]; exact next0 (below_alloc _ _) (below_alloc _ _))
  have H2 : Hid (Has W2 w.heap.size #[.string h.nm, .slice p h.args.length c, .slice none 0 0]) := Lib.hid (by rw [hW2]; exact (Has.new w _ _).alloc _)
  have E2 : Hid (Has W2 (w.heap.size + 1) #[.string ⟨#[]⟩, .slice none 0 0, .slice none 0 0]) := Lib.hid (by rw [hW2]; exact Has.new1 w _ _ _)
  have hs2 : w.heap.size + 2 ≤ W2.heap.size := by rw [hW2]; simp
  have CB := Lib.hid (replace_any g φ h B W2 (.slice p h.args.length c) (Nat.le_trans hB B2.out.size) (hs.deep B2.out hB) hn hz (fun w' n k hn => HF w' n (next0 B2.out k) hn))
  clear hs hn hz HF hB
  generalize repT φ h = u at *
  unfold RepR at CB
  generalize h.nm = hnm at *
  generalize h.args.length = hl at *
  obtain ⟨y1, y2, y3⟩ := UniA.three H2.out
  go_enter Tryz.func48, Tryz.ntmps48
  go_upto_region 1 with fail
  rw [← hW2]
  clear hW2
  go_wp2_with fail
  refine CB.out.mono ?_
  rintro e w3 ⟨q, d, rfl, hS, hnu, k3⟩
  have D3 := Lib.hid (next0 B2.out k3)
  have H3 := Lib.hid (H2.out.step0 k3)
  have E3 := Lib.hid (E2.out.step0 k3)
  have S3 := Lib.hid (hS.weaken (ok' := fun b => W2.heap.size ≤ b ∧ b < w3.heap.size) (fun b hb => hb))
  have NU := Lib.hid hnu
  clear y1 y2 y3 hS hnu k3 H2 E2 CB
  obtain ⟨W4, hW4⟩ : ∃ W4, W4 = w3.alloc (.cells #[.string u.nm, .slice q u.args.length d, .slice none 0 0] 34) := ⟨_, rfl⟩
  have K4 : Hid (Below w3.heap.size w3 W4) := Lib.hid (by rw [hW4]; exact below_alloc _ _)
  have R4 : Hid (Has W4 w3.heap.size #[.string u.nm, .slice q u.args.length d, .slice none 0 0]) := Lib.hid (by rw [hW4]; exact Has.new _ _ _)
  have H4 := Lib.hid (H3.out.step0 K4.out)
  have E4 := Lib.hid (E3.out.step0 K4.out)
  have D4 := Lib.hid (next0 D3.out K4.out)
  have S4 := Lib.hid ((S3.out.frame (w' := W4) fun b o hb => K4.out.cell (p := ⟨b, o, none⟩) hb.2).weaken (ok' := fun b => W2.heap.size ≤ b ∧ b < W4.heap.size) fun b hb => ⟨hb.1, Nat.lt_of_lt_of_le hb.2 K4.out.size⟩)
  clear D3 H3 E3 S3
  obtain ⟨y1, y2, y3⟩ := UniA.three H4.out
  go_upto_region 2 with fail
  rw [← hW4]
  clear hW4
  go_wp2_with fail
  go_loopw [16] (fun i wr => ∃ k : Nat, k ≤ 0 ∧ i = .int .i64 k ∧ Hid (Below W4.heap.size W4 wr)) (fun i _ => 0 - (intOf i).toNat)
  case atStart => exact ⟨0, Nat.le_refl _, rfl, Lib.hid (Below.refl _ _)⟩
  case round =>
    obtain ⟨k, hk, rfl, hK⟩ := hrel
    have hk0 : ¬ ((k : Int) < 0) := by omega
    have E5 := Lib.hid (E4.out.step0 hK.out)
    have R5 := Lib.hid (R4.out.step0 hK.out)
    have D5 := Lib.hid (next0 D4.out hK.out)
    have S5 := Lib.hid ((S4.out.frame (w' := wr) fun b o hb => hK.out.cell (p := ⟨b, o, none⟩) hb.2).weaken (ok' := fun b => W2.heap.size ≤ b ∧ b < wr.heap.size) fun b hb => ⟨hb.1, Nat.lt_of_lt_of_le hb.2 hK.out.size⟩)
    clear E4 R4 D4 S4 H4 y1 y2 y3
    obtain ⟨y1, y2, y3⟩ := UniA.three R5.out
    obtain ⟨z1, z2, z3⟩ := UniA.three E5.out
    have f1 := E5.out.free 0
    have f2 := E5.out.free 1
    have f3 := E5.out.free 2
    have hel : w.heap.size + 1 < wr.heap.size := E5.out.lt
    have R6 := put3 E5.out (.string u.nm) (.slice q u.args.length d) (.slice none 0 0)
    obtain ⟨r1, r2, r3⟩ := UniA.three R6
    have D6 := Lib.hid (((D5.out.setCell (p := ⟨w.heap.size + 1, 0, none⟩) (by simp) (.string u.nm)).setCell (p := ⟨w.heap.size + 1, 1, none⟩) (by simp) (.slice q u.args.length d)).setCell (p := ⟨w.heap.size + 1, 2, none⟩) (by simp) (.slice none 0 0))
    have S6 := Lib.hid (S5.out.frame (w' := ((wr.setCell ⟨w.heap.size + 1, 0, none⟩ (.string u.nm)).setCell ⟨w.heap.size + 1, 1, none⟩ (.slice q u.args.length d)).setCell ⟨w.heap.size + 1, 2, none⟩ (.slice none 0 0)) (fun b o hb => by
      rw [cell_far (by show b ≠ w.heap.size + 1; omega), cell_far (by show b ≠ w.heap.size + 1; omega), cell_far (by show b ≠ w.heap.size + 1; omega)]))
    clear R6 E5 R5 D5 S5
    go_wp2_with fail
    refine bodyPost_ret (v := .agg #[.string u.nm, .slice q u.args.length d, .slice none 0 0]) (by simp [results, Tryz.results48, go_sem, r1, r2, r3]) rfl ?_
    unfold RuR
    exact ⟨q, d, rfl, S6.out.weaken (fun b hb => ⟨by omega, by simpa [World.setCell] using hb.2⟩), NU.out, D6.out⟩
end UnmH
end Go.Proofs.YtjfgnmmcdgpiiaaGreatDoor
/- replaceInRule of the code: a rule's head and the atoms of its body, replaced. Made by genrule.py. Conditions: at most a thousand literals; what is called for each term answers. -/
namespace Go.Proofs.YtjfgnmmcdgpiiaaGreatDoor
open Go Go.RowKit
namespace UnqB
open LexM TermM TermI Kit TermN TermU UniK UniM UniA UniD UniE UniF UniG UniR UnmH LigG LigU LigY UnqA
/-- What is called for a term leaves: a term whose lists lie in blocks of the kind or in new ones. -/
def RpX (ok0 : Nat → Prop) (u : Tm) (w : World) (e : Ending) (w' : World) : Prop :=
  ∃ (q : Option Addr) (d : Nat), e = .returned (.agg #[.string u.nm, .slice q u.args.length d]) ∧ SlIn (fun b => ok0 b ∨ (w.heap.size ≤ b ∧ b < w'.heap.size)) w' u.args (.slice q u.args.length d) ∧ u.nm.size ≤ maxLen ∧ Below w.heap.size w w'
theorem okx1 {ok0 : Nat → Prop} {a lo hi c : Nat} (h : ∀ b, ok0 b → b < a) (h1 : a ≤ c) (h2 : hi ≤ c) : ∀ b, (ok0 b ∨ (lo ≤ b ∧ b < hi)) → b < c := fun b hb => hb.elim (fun h0 => Nat.lt_of_lt_of_le (h b h0) h1) fun h => Nat.lt_of_lt_of_le h.2 h2
theorem okx2 {ok0 : Nat → Prop} {a R lo hi c : Nat} {v : Value} (h : ∀ b, ok0 b → b < a) (h1 : a ≤ R) (h2 : R + 1 ≤ lo) (h3 : a ≤ c) (h4 : hi ≤ c) (hv : ∀ k, v.ownBlock = some k → R + 1 ≤ k ∧ k < lo) : ∀ b, (ok0 b ∨ (lo ≤ b ∧ b < hi)) → (ok0 b ∨ R + 1 ≤ b) ∧ b < c ∧ v.ownBlock ≠ some b := fun b hb => by
  rcases hb with hb | hb
  · have := h b hb
    exact ⟨Or.inl hb, by omega, fun e => by have := hv b e; omega⟩
  · exact ⟨Or.inr (by omega), by omega, fun e => by have := hv b e; omega⟩
theorem next9 {ex : Nat → Prop} {a b c : World} (h : Below a.heap.size a b) (g : Lt ex b c) (hx : ∀ i, ex i → a.heap.size ≤ i) : Below a.heap.size a c := h.trans (g.toBelow h.size hx)
set_option maxRecDepth 100000 in
set_option maxHeartbeats 6400000 in
theorem rir_any (clo : Value) (ok0 : Nat → Prop) (φ : Tm → Tm) (h : Tm) (l : List Lt) (w : World) (hv lv : Value) (hs : SlIn (· < w.heap.size) w h.args hv) (hl : LIn (· < w.heap.size) w l lv) (hn : h.nm.size ≤ maxLen) (hll : l.length ≤ 1000) (hok : ∀ b, ok0 b → b < w.heap.size)
    (HC : ∀ (t : Tm) (w' : World) (q : Value), (t = h ∨ ∃ x ∈ l, x.2 = t) → Below w.heap.size w w' → SlIn (· < w.heap.size) w' t.args q → t.nm.size ≤ maxLen → Calls Tryz.prog 45 #[.agg #[.string t.nm, q], clo] w' (RpX ok0 (φ t) w')) :
    Calls Tryz.prog 48 #[.agg #[.string h.nm, hv, lv], clo] w (RuX ok0 (φ h) (atomsL φ l) w) := by
  obtain ⟨p, c, rfl⟩ := hs.form
  obtain ⟨lp, lc, rfl⟩ := hl.form
  obtain ⟨i0, hi0, hi1, hi2, hi3⟩ := info_parts Tryz.infoL
  have hmf := @hmf0
  obtain ⟨W2, hW2⟩ : ∃ W2, W2 = (w.alloc (.cells #[.string h.nm, .slice p h.args.length c, .slice lp l.length lc] 34)).alloc (.cells #[.string ⟨#[]⟩, .slice none 0 0, .slice none 0 0] 34) := ⟨_, rfl⟩
  have B2 : Hid (Below w.heap.size w W2) := Lib.hid (by rw [hW2]; exact next0 (below_alloc _ _) (below_alloc _ _))
  have H2 : Hid (Has W2 w.heap.size #[.string h.nm, .slice p h.args.length c, .slice lp l.length lc]) := Lib.hid (by rw [hW2]; exact (Has.new w _ _).alloc _)
  have E2 : Hid (Has W2 (w.heap.size + 1) #[.string ⟨#[]⟩, .slice none 0 0, .slice none 0 0]) := Lib.hid (by rw [hW2]; exact Has.new1 w _ _ _)
  have hs2 : w.heap.size + 2 ≤ W2.heap.size := by rw [hW2]; simp
  have CB := Lib.hid (HC h W2 _ (Or.inl rfl) B2.out (hs.deep B2.out (Nat.le_refl _)) hn)
  have CX := Lib.hid (fun (x : Lt) (hx : x ∈ l) (q : Value) w0 (k0 : Below w.heap.size w w0) (hq : SlIn (· < w.heap.size) w0 x.2.args q) (hn : x.2.nm.size ≤ maxLen) w' (k : Below w.heap.size w w') (hq' : SlIn (· < w.heap.size) w' x.2.args q) => HC x.2 w' q (Or.inr ⟨x, hx, rfl⟩) k hq' hn)
  have LL := Lib.hid (fun w' (k : Below w.heap.size w w') => hl.keep (w' := w') fun b o hb => k.cell (p := ⟨b, o, none⟩) hb)
  have AT := Lib.hid (fun k x (hx : l[k]? = some x) => atoms_next (φ := φ) hx)
  have AE : Hid (atomsL φ (l.take l.length) = atomsL φ l) := Lib.hid (by rw [List.take_length])
  have AL : Hid (∀ k, k ≤ l.length → (atomsL φ (l.take k)).length = k) := Lib.hid (fun k hk => by unfold atomsL; rw [List.length_map, List.length_take]; omega)
  have OK0 := Lib.hid hok
  clear hs hn HC hok hl
  generalize φ h = u at *
  unfold RpX at CB CX
  generalize h.nm = hnm at *
  generalize h.args.length = hln at *
  generalize hnl : l.length = n at *
  have HNL := Lib.hid hnl
  clear hnl
  obtain ⟨y1, y2, y3⟩ := UniA.three H2.out
  go_enter Tryz.func48, Tryz.ntmps48
  go_upto_region 1 with fail
  rw [← hW2]
  clear hW2
  go_wp2_with fail
  refine CB.out.mono ?_
  rintro e w3 ⟨q, d, rfl, hS, hnu, k3⟩
  have D3 := Lib.hid (next0 B2.out k3)
  have H3 := Lib.hid (H2.out.step0 k3)
  have E3 := Lib.hid (E2.out.step0 k3)
  have hs3 : W2.heap.size ≤ w3.heap.size := k3.size
  have NU := Lib.hid hnu
  clear y1 y2 y3 hnu k3 H2 E2 CB
  obtain ⟨R, hR⟩ : ∃ m, m = w3.heap.size := ⟨_, rfl⟩
  have S3 : Hid (SlIn (fun b => ok0 b ∨ (W2.heap.size ≤ b ∧ b < R)) w3 u.args (.slice q u.args.length d)) := Lib.hid (by rw [hR]; exact hS)
  obtain ⟨W4, hW4⟩ : ∃ W4, W4 = w3.alloc (.cells #[.string u.nm, .slice q u.args.length d, .slice none 0 0] 34) := ⟨_, rfl⟩
  have K4 : Hid (Below w3.heap.size w3 W4) := Lib.hid (by rw [hW4]; exact below_alloc _ _)
  have R4 : Hid (Has W4 R #[.string u.nm, .slice q u.args.length d, .slice none 0 0]) := Lib.hid (by rw [hW4, hR]; exact Has.new _ _ _)
  have hs4 : R + 1 ≤ W4.heap.size := by rw [hW4, hR]; simp
  have H4 := Lib.hid (H3.out.step0 K4.out)
  have E4 := Lib.hid (E3.out.step0 K4.out)
  have D4 := Lib.hid (next0 D3.out K4.out)
  have hw2R : w.heap.size + 2 ≤ R := by omega
  have S4 := Lib.hid (S3.out.frame (w' := W4) fun b o hb => K4.out.cell (p := ⟨b, o, none⟩) (okx1 OK0.out (show w.heap.size ≤ w3.heap.size by omega) (show R ≤ w3.heap.size by omega) b hb))
  clear D3 H3 E3 S3 hS
  generalize hun : u.nm = hu at *
  have HHU := Lib.hid hun
  generalize hul : u.args.length = hl at *
  have HHL := Lib.hid hul
  clear hun hul
  obtain ⟨y1, y2, y3⟩ := UniA.three H4.out
  go_upto_region 2 with fail
  rw [← hW4, ← hR]
  clear hW4 hR
  go_wp2_with fail
  go_loopw [16] (fun i wr => ∃ (k : Nat) (L : List (Lt × Value)) (v : Value), k ≤ n ∧ i = .int .i64 k ∧ Hid (L.map (·.1) = atomsL φ (l.take k)) ∧ Hid (OwnX KL ok0 (R + 1) wr L v) ∧ Hid (Has wr R #[.string hu, .slice q hl d, v]) ∧ Hid (Has wr (w.heap.size + 1) #[.string ⟨#[]⟩, .slice none 0 0, .slice none 0 0]) ∧ Hid (SlIn (fun b => ok0 b ∨ (W2.heap.size ≤ b ∧ b < R)) wr u.args (.slice q hl d)) ∧ Hid (Below w.heap.size w wr)) (fun i _ => n - (intOf i).toNat)
  case atStart => exact ⟨0, [], _, Nat.zero_le _, rfl, Lib.hid rfl, Lib.hid (OwnX.nil _ _ _), R4, E4, S4, D4⟩
  case round =>
    clear R4 E4 S4 H4 y1 y2 y3
    obtain ⟨k, L, v, hk, rfl, hM, hO, hRb, hE, hS, hD⟩ := hrel
    obtain ⟨va, vc, rfl⟩ := hO.out.form
    by_cases hlt : k < n
    · obtain ⟨x, g, o, q5, d5, hx, rfl, hg, e1, e2, e3, hxs, hxn⟩ := lin_row (LL.out wr hD.out) k (by rw [HNL.out]; exact hlt)
      have hLk : L.length = k := by
        have := congrArg List.length hM.out
        rw [List.length_map, AL.out k hk] at this
        exact this
      have CR0 := Lib.hid (fun w' (k : Below wr.heap.size wr w') => CX.out x (List.mem_of_getElem? hx) _ wr hD.out hxs hxn w' (next0 hD.out k) (hxs.deep k hD.out.size))
      have HM1 : Hid (∀ z : Value, (L ++ [((x.1, φ x.2), z)]).map (·.1) = atomsL φ (l.take (k + 1))) := Lib.hid (fun z => by rw [AT.out k x hx, List.map_append, hM.out]; rfl)
      obtain ⟨Wb, hWb⟩ : ∃ z, z = wr.alloc (.cells #[.bool x.1, .string x.2.nm, .slice q5 x.2.args.length d5] 67) := ⟨_, rfl⟩
      obtain ⟨bx, hbx⟩ : ∃ m, m = wr.heap.size := ⟨_, rfl⟩
      have KB : Hid (Below wr.heap.size wr Wb) := Lib.hid (by rw [hWb]; exact below_alloc _ _)
      have HX : Hid (Has Wb bx #[.bool x.1, .string x.2.nm, .slice q5 x.2.args.length d5]) := Lib.hid (by rw [hWb, hbx]; exact Has.new _ _ _)
      have hOl := hO.out.1.lt
      have hRl := hRb.out.lt
      have OL : Hid (∀ k, (Value.slice va L.length vc).ownBlock = some k → R + 1 ≤ k ∧ k < bx) := Lib.hid (by rw [hbx]; exact hOl)
      have HR := Lib.hid (hRb.out.step0 KB.out)
      have O := Lib.hid (hO.out.below KB.out)
      have K := Lib.hid (next0 hD.out KB.out)
      have EQ5 := Lib.hid (hE.out.step0 KB.out)
      have SQ5 := Lib.hid (hS.out.frame (w' := Wb) fun b o hb => KB.out.cell (p := ⟨b, o, none⟩) (okx1 OK0.out hD.out.size (show R ≤ wr.heap.size by omega) b hb))
      have CR := Lib.hid (fun w' (k : Below Wb.heap.size Wb w') => CR0.out w' (next0 KB.out k))
      have AD := Lib.hid (fun (ok' : Nat → Prop) (w' : World) (v : Value) (h1 : SlIn ok' w' (φ x.2).args v) (h2 : (φ x.2).nm.size ≤ maxLen) => show KL.inn ok' w' ((x.1, φ x.2), v) from ⟨h1, h2⟩)
      have AF := Lib.hid (fun (w9 : World) (vv v : Value) (n : Nat) (h : w9.ownsRow (R + 1) 67 3 vv n (KL.flat L ++ [.bool x.1, .string (φ x.2).nm, v])) => show w9.ownsRow (R + 1) KL.ty 3 vv n (KL.flat L ++ KL.cells ((x.1, φ x.2), v)) from h)
      have hRb2 : R + 1 ≤ bx := by omega
      have hbW : bx < Wb.heap.size := HX.out.lt
      have A1 : L.length + 1 ≤ maxLen := by unfold maxLen; omega
      have A2 : (L.length + 1) * 48 ≤ 140737488355328 := by omega
      have Hb : Hid (∀ w', Lt (fun b => b = R ∨ (Value.slice va L.length vc).ownBlock = some b) Wb w' → (w'.cell? ⟨bx, 0, none⟩ = some (.bool x.1) ∧ w'.cell? ⟨bx, 1, none⟩ = some (.string x.2.nm) ∧ w'.cell? ⟨bx, 2, none⟩ = some (.slice q5 x.2.args.length d5))) := Lib.hid (fun w' g => by
        have := g.has HX.out (fun e => by rcases e with e | e; omega; have := OL.out _ e; omega)
        exact ⟨this.cell 0, this.cell 1, this.cell 2⟩)
      obtain ⟨z1, z2, z3, z4, z5, z6, z7⟩ := UnpP.has3 HX.out
      have e4 : wr.cell? ⟨g, o + k * 3 + 2, none⟩ = some (.slice q5 x.2.args.length d5) := e3
      clear hx hxs hxn hOl hRl CR0 KB HX hO hRb hE hS e3 hLk
      generalize x.1 = xb at *
      generalize x.2.nm = xn at *
      generalize x.2.args.length = xl at *
      generalize (φ x.2).nm = un at *
      generalize (φ x.2).args.length = ul at *
      go_upto_region 5 with fail
      rw [← hWb, ← hbx]
      clear hWb hbx z1 z2 z3 z4 z5 z6 z7 e1 e2 e4
      have X0 : Hid (Lt (fun b => b = R ∨ (Value.slice va L.length vc).ownBlock = some b) Wb Wb.drew) := Lib.hid (Lt.of (Below.refl _ _).drew)
      have K0 : Hid (Below Wb.heap.size Wb Wb.drew) := Lib.hid (Below.refl _ _).drew
      have HR0 := Lib.hid (HR.out.drew)
      have O0 : Hid (OwnX KL ok0 (R + 1) Wb.drew L (.slice va L.length vc)) := Lib.hid (O.out.below (Below.refl _ _).drew)
      refine wp_region_held_drew (S := (fun w' => w'.cell? ⟨bx, 0, none⟩ = some (.bool xb) ∧ w'.cell? ⟨bx, 1, none⟩ = some (.string xn) ∧ w'.cell? ⟨bx, 2, none⟩ = some (.slice q5 xl d5))) (by kernel_rfl) (Hb.out _ X0.out) (fun hHeld => ?_)
      have hz0 : Wb.heap.size ≤ Wb.drew.heap.size := Nat.le_refl _
      generalize hw0 : Wb.drew = wz at hHeld X0 K0 HR0 O0 hz0 ⊢
      clear hw0
      refine wpAnyH_take (i := 0) (v := ?_) rfl (by kernel_rfl) (by kernel_rfl) (by kernel_rfl) (fun _ _ _ h => h) (Or.inl ⟨by rfl, ?_⟩) (by assumption) ?_
      rotate_left
      · intro w' hSw; (try dsimp only at hSw); (try simp only [List.getElem_toArray, List.getElem_cons_zero]); go_simp; try with_reducible rfl
      (try simp only [List.getElem_toArray, List.getElem_cons_zero, Act.put, List.setIfInBounds_toArray, List.set_cons_zero, List.set_cons_succ])
      refine wpAnyH_take (i := 2) (v := ?_) rfl (by kernel_rfl) (by kernel_rfl) (by kernel_rfl) (fun _ _ _ h => h) (Or.inl ⟨by rfl, ?_⟩) (by assumption) ?_
      rotate_left
      · intro w' hSw; (try dsimp only at hSw); (try simp only [List.getElem_toArray, List.getElem_cons_zero, List.getElem_cons_succ]); go_simp; try with_reducible rfl
      (try simp only [List.getElem_toArray, List.getElem_cons_zero, List.getElem_cons_succ, Act.put, List.setIfInBounds_toArray, List.set_cons_zero, List.set_cons_succ])
      refine wpAnyH_take (i := 3) (v := ?_) rfl (by kernel_rfl) (by kernel_rfl) (by kernel_rfl) (fun _ _ _ h => h) (Or.inl ⟨by rfl, ?_⟩) (by assumption) ?_
      rotate_left
      · intro w' hSw; (try dsimp only at hSw); (try simp only [List.getElem_toArray, List.getElem_cons_zero, List.getElem_cons_succ]); go_simp; try with_reducible rfl
      (try simp only [List.getElem_toArray, List.getElem_cons_zero, List.getElem_cons_succ, Act.put, List.setIfInBounds_toArray, List.set_cons_zero, List.set_cons_succ])
      refine wpAnyH_take (i := 4) (v := ?_) rfl (by kernel_rfl) (by kernel_rfl) (by kernel_rfl) (fun _ _ _ h => h) (Or.inl ⟨by rfl, ?_⟩) (by assumption) ?_
      rotate_left
      · intro w' hSw; (try dsimp only at hSw); (try simp only [List.getElem_toArray, List.getElem_cons_zero, List.getElem_cons_succ]); go_simp; try with_reducible rfl
      (try simp only [List.getElem_toArray, List.getElem_cons_zero, List.getElem_cons_succ, Act.put, List.setIfInBounds_toArray, List.set_cons_zero, List.set_cons_succ])
      refine wpAnyH_take (i := 5) (v := ?_) rfl (by kernel_rfl) (by kernel_rfl) (by kernel_rfl) (fun _ _ _ h => h) (Or.inl ⟨by rfl, ?_⟩) (by assumption) ?_
      rotate_left
      · intro w' hSw; (try dsimp only at hSw); (try simp only [List.getElem_toArray, List.getElem_cons_zero, List.getElem_cons_succ]); go_simp; try with_reducible rfl
      (try simp only [List.getElem_toArray, List.getElem_cons_zero, List.getElem_cons_succ, Act.put, List.setIfInBounds_toArray, List.set_cons_zero, List.set_cons_succ])
      refine wpAnyH_take (i := 6) (v := ?_) rfl (by kernel_rfl) (by kernel_rfl) (by kernel_rfl) (fun _ _ _ h => h) (Or.inl ⟨by rfl, ?_⟩) (by assumption) ?_
      rotate_left
      · intro w' hSw; (try dsimp only at hSw); (try simp only [List.getElem_toArray, List.getElem_cons_zero, List.getElem_cons_succ]); go_simp; try with_reducible rfl
      (try simp only [List.getElem_toArray, List.getElem_cons_zero, List.getElem_cons_succ, Act.put, List.setIfInBounds_toArray, List.set_cons_zero, List.set_cons_succ])
      refine wpAnyH_ready (rs := [1, 7]) (by kernel_rfl) (by simp) ?_
      refine (AllReadyH.cons rfl (fun K' hK => ?_) (AllReadyH.cons rfl (fun K' hK => ?_) AllReadyH.nil))
      · skip
        obtain ⟨f1, f2, f3, f4, f5, f6, f7⟩ := UnpP.has3 HR0.out
        go_simp
        (try go_split_ands)
        clear f1 f2 f3 f4 f5 f6 f7
        refine hK.out _ _ (Hb.out _ X0.out) (fun hHeld => ?_)
        clear hK K'
        (try simp only [List.getElem_toArray, List.getElem_cons_zero, List.getElem_cons_succ, Act.put, List.setIfInBounds_toArray, List.set_cons_zero, List.set_cons_succ])
        refine wpAnyH_ready (rs := [7]) (by kernel_rfl) (by simp) ?_
        refine (AllReadyH.cons rfl (fun K' hK => ?_) AllReadyH.nil)
        go_simp
        (try go_split_ands)
        go_at_call 45
        (with_reducible refine (CR.out _ K0.out).mono ?_)
        rintro e w21 ⟨q7, d7, rfl, s7, n7, k7⟩
        have X1 := Lib.hid (Lt.below X0.out k7)
        have K1 := Lib.hid (next0 K0.out k7)
        have HR1 := Lib.hid (HR0.out.step0 k7)
        have O1 := Lib.hid (O0.out.below k7)
        have hz1 : wz.heap.size ≤ w21.heap.size := k7.size
        obtain ⟨lo, hlo⟩ : ∃ m, m = wz.heap.size := ⟨_, rfl⟩
        obtain ⟨hi, hhi⟩ : ∃ m, m = w21.heap.size := ⟨_, rfl⟩
        rw [← hlo, ← hhi] at s7
        have S1 := Lib.hid s7
        have N7 := Lib.hid n7
        clear s7 n7 k7
        refine hK.out _ _ (Hb.out _ X1.out) (fun hHeld => ?_)
        clear hK K'
        (try simp only [List.getElem_toArray, List.getElem_cons_zero, List.getElem_cons_succ, Act.put, List.setIfInBounds_toArray, List.set_cons_zero, List.set_cons_succ])
        refine wpAnyH_take (i := 8) (v := ?_) rfl (by kernel_rfl) (by kernel_rfl) (by kernel_rfl) (fun _ _ _ h => h) (Or.inl ⟨by rfl, ?_⟩) (by assumption) ?_
        rotate_left
        · intro w' hSw; (try dsimp only at hSw); (try simp only [List.getElem_toArray, List.getElem_cons_zero, List.getElem_cons_succ]); go_simp; try with_reducible rfl
        (try simp only [List.getElem_toArray, List.getElem_cons_zero, List.getElem_cons_succ, Act.put, List.setIfInBounds_toArray, List.set_cons_zero, List.set_cons_succ])
        refine wpAnyH_ready (rs := [9]) (by kernel_rfl) (by simp) ?_
        refine (AllReadyH.cons rfl (fun K' hK => ?_) AllReadyH.nil)
        go_simp
        (try go_split_ands)
        obtain ⟨w22, hw2⟩ : ∃ z, z = w21.alloc (.cells #[.bool xb, .string un, .slice q7 ul d7] 67) := ⟨_, rfl⟩
        rw [← hw2]
        have J2 : Hid (Below w21.heap.size w21 w22) := Lib.hid (by rw [hw2]; exact below_alloc _ _)
        have HB2 : Hid (Has w22 w21.heap.size #[.bool xb, .string un, .slice q7 ul d7]) := Lib.hid (by rw [hw2]; exact Has.new _ _ _)
        have hz2 : w21.heap.size + 1 ≤ w22.heap.size := by rw [hw2]; simp
        clear hw2
        have X2 := Lib.hid (Lt.below X1.out J2.out)
        have K2 := Lib.hid (next0 K1.out J2.out)
        have HR2 := Lib.hid (HR1.out.step0 J2.out)
        have O2 := Lib.hid (O1.out.below J2.out)
        have S2 := Lib.hid (S1.out.frame (w' := w22) fun b o hb => J2.out.cell (p := ⟨b, o, none⟩) (okx1 OK0.out (show w.heap.size ≤ w21.heap.size by omega) (show hi ≤ w21.heap.size by omega) b hb))
        refine hK.out _ _ (Hb.out _ X2.out) (fun hHeld => ?_)
        clear hK K'
        (try simp only [List.getElem_toArray, List.getElem_cons_zero, List.getElem_cons_succ, Act.put, List.setIfInBounds_toArray, List.set_cons_zero, List.set_cons_succ])
        refine wpAnyH_ready (rs := [10]) (by kernel_rfl) (by simp) ?_
        refine (AllReadyH.cons rfl (fun K' hK => ?_) AllReadyH.nil)
        refine step_append_lies _ rfl _ _ 32 rfl (R + 1) 67 i0 (.agg #[.bool false, .string ⟨#[]⟩, .slice none 0 0]) 3 48 Tryz.underlying32 hi0 hi1 hi2 hi3 rfl (by decide) (.slice va L.length vc) L.length (KL.flat L) rfl O2.out.1 ⟨w21.heap.size, 0, none⟩ 1 1 [.bool xb, .string un, .slice q7 ul d7] rfl rfl (World.news_of_block HB2.out.choose_spec) (one_L _ _ _ _ _) (by decide) A1 A2 (show R + 1 ≤ w22.heap.size by omega) _ rfl ?_
        intro g9 c9 w9 hown hgrow hat hlt9
        have OL9 := OL.out
        have X9 := Lib.hid (Lt.grown X2.out hgrow (fun k e => Or.inl (Or.inr e)))
        have L9 : Hid (Lt (fun b => (Value.slice va L.length vc).ownBlock = some b) w22 w9) := Lib.hid (Lt.grown (Lt.of (Below.refl _ _)) hgrow (fun k e => Or.inl e))
        have HR9 := Lib.hid (L9.out.has HR2.out (fun e => by have := OL9 _ e; omega))
        have O9 := Lib.hid (OwnX.add (K := KL) (x := ((xb, φ x.2), Value.slice q7 ul d7)) O2.out (AD.out _ _ _ S2.out N7.out) (okx2 OK0.out (show w.heap.size ≤ R by omega) (show R + 1 ≤ lo by omega) (show w.heap.size ≤ w22.heap.size by omega) (show hi ≤ w22.heap.size by omega) (fun k e => by have := OL9 k e; omega)) (AF.out _ _ _ _ hown) L9.out (hat.imp id fun h => Nat.le_of_eq h.symm))
        have hz9 : w22.heap.size ≤ w9.heap.size := L9.out.size
        clear hown hgrow OL9
        refine hK.out _ _ (Hb.out _ X9.out) (fun hHeld => ?_)
        clear hK K'
        (try simp only [List.getElem_toArray, List.getElem_cons_zero, List.getElem_cons_succ, Act.put, List.setIfInBounds_toArray, List.set_cons_zero, List.set_cons_succ])
        refine wpAnyH_take (i := 11) (v := ?_) rfl (by kernel_rfl) (by kernel_rfl) (by kernel_rfl) (fun _ _ _ h => h) (Or.inl ⟨by rfl, ?_⟩) (by assumption) ?_
        rotate_left
        · intro w' hSw; (try dsimp only at hSw); (try simp only [List.getElem_toArray, List.getElem_cons_zero, List.getElem_cons_succ]); go_simp; try with_reducible rfl
        (try simp only [List.getElem_toArray, List.getElem_cons_zero, List.getElem_cons_succ, Act.put, List.setIfInBounds_toArray, List.set_cons_zero, List.set_cons_succ])
        refine wpAnyH_ready (rs := [12]) (by kernel_rfl) (by simp) ?_
        refine (AllReadyH.cons rfl (fun K' hK => ?_) AllReadyH.nil)
        obtain ⟨f1, f2, f3, f4, f5, f6, f7⟩ := UnpP.has3 HR9.out
        go_simp
        (try go_split_ands)
        obtain ⟨w10, hw10⟩ : ∃ z, z = w9.setCell ⟨R, 2, none⟩ (.slice (some ⟨g9, 0, none⟩) (L.length + 1) c9) := ⟨_, rfl⟩
        rw [← hw10]
        have X10 : Hid (Lt (fun b => b = R ∨ (Value.slice va L.length vc).ownBlock = some b) Wb w10) := Lib.hid (by rw [hw10]; exact X9.out.put (Or.inl (Or.inl rfl)) _)
        have HR10 : Hid (Has w10 R #[.string hu, .slice q hl d, .slice (some ⟨g9, 0, none⟩) (L.length + 1) c9]) := Lib.hid (by rw [hw10]; exact HR9.out.set 2 _)
        have P10 : Hid (Lt (· = R) w9 w10) := Lib.hid (by rw [hw10]; exact Lt.put (ex := (· = R)) (p := ⟨R, 2, none⟩) (Lt.of (Below.refl _ _)) (Or.inl rfl) _)
        have O10 := Lib.hid (O9.out.lt P10.out (fun i e => by subst e; exact ⟨by omega, fun h => by have := OK0.out _ h; omega⟩))
        have OL10 := OL.out
        have D10 := Lib.hid (next9 K.out X10.out (fun k e => by rcases e with e | e; omega; have := OL10 k e; omega))
        have E10 := Lib.hid (X10.out.has EQ5.out (fun e => by rcases e with e | e; omega; have := OL10 _ e; omega))
        have S10 := Lib.hid (SQ5.out.frame (w' := w10) fun b o hb => X10.out.cell (okx1 OK0.out (show w.heap.size ≤ Wb.heap.size by omega) (show R ≤ Wb.heap.size by omega) b hb) (fun e => by have h1 := okx1 OK0.out (show w.heap.size ≤ R by omega) (Nat.le_refl R) b hb; rcases e with e | e; omega; have := OL10 _ e; omega))
        clear hw10 f1 f2 f3 f4 f5 f6 f7 OL10
        refine hK.out _ _ (Hb.out _ X10.out) (fun hHeld => ?_)
        clear hK K'
        (try simp only [List.getElem_toArray, List.getElem_cons_zero, List.getElem_cons_succ, Act.put, List.setIfInBounds_toArray, List.set_cons_zero, List.set_cons_succ])
        refine wpAnyH_done (by kernel_rfl) ?_ _
        go_wp2_with fail
        go_roundw
        case rel => exact ⟨k + 1, L ++ [((xb, φ x.2), .slice q7 ul d7)], _, by omega, by go_num, Lib.hid (HM1.out _), O10, HR10, E10, S10, D10⟩
        case measure => simp [intOf]; omega
      · skip
        go_simp
        (try go_split_ands)
        go_at_call 45
        (with_reducible refine (CR.out _ K0.out).mono ?_)
        rintro e w24 ⟨q7, d7, rfl, s7, n7, k7⟩
        have X4 := Lib.hid (Lt.below X0.out k7)
        have K4 := Lib.hid (next0 K0.out k7)
        have HR4 := Lib.hid (HR0.out.step0 k7)
        have O4 := Lib.hid (O0.out.below k7)
        have hz4 : wz.heap.size ≤ w24.heap.size := k7.size
        obtain ⟨lo, hlo⟩ : ∃ m, m = wz.heap.size := ⟨_, rfl⟩
        obtain ⟨hi, hhi⟩ : ∃ m, m = w24.heap.size := ⟨_, rfl⟩
        rw [← hlo, ← hhi] at s7
        have S4 := Lib.hid s7
        have N7 := Lib.hid n7
        clear s7 n7 k7
        refine hK.out _ _ (Hb.out _ X4.out) (fun hHeld => ?_)
        clear hK K'
        (try simp only [List.getElem_toArray, List.getElem_cons_zero, List.getElem_cons_succ, Act.put, List.setIfInBounds_toArray, List.set_cons_zero, List.set_cons_succ])
        refine wpAnyH_take (i := 8) (v := ?_) rfl (by kernel_rfl) (by kernel_rfl) (by kernel_rfl) (fun _ _ _ h => h) (Or.inl ⟨by rfl, ?_⟩) (by assumption) ?_
        rotate_left
        · intro w' hSw; (try dsimp only at hSw); (try simp only [List.getElem_toArray, List.getElem_cons_zero, List.getElem_cons_succ]); go_simp; try with_reducible rfl
        (try simp only [List.getElem_toArray, List.getElem_cons_zero, List.getElem_cons_succ, Act.put, List.setIfInBounds_toArray, List.set_cons_zero, List.set_cons_succ])
        refine wpAnyH_ready (rs := [1, 9]) (by kernel_rfl) (by simp) ?_
        refine (AllReadyH.cons rfl (fun K' hK => ?_) (AllReadyH.cons rfl (fun K' hK => ?_) AllReadyH.nil))
        · skip
          obtain ⟨f1, f2, f3, f4, f5, f6, f7⟩ := UnpP.has3 HR4.out
          go_simp
          (try go_split_ands)
          clear f1 f2 f3 f4 f5 f6 f7
          refine hK.out _ _ (Hb.out _ X4.out) (fun hHeld => ?_)
          clear hK K'
          (try simp only [List.getElem_toArray, List.getElem_cons_zero, List.getElem_cons_succ, Act.put, List.setIfInBounds_toArray, List.set_cons_zero, List.set_cons_succ])
          refine wpAnyH_ready (rs := [9]) (by kernel_rfl) (by simp) ?_
          refine (AllReadyH.cons rfl (fun K' hK => ?_) AllReadyH.nil)
          go_simp
          (try go_split_ands)
          obtain ⟨w25, hw5⟩ : ∃ z, z = w24.alloc (.cells #[.bool xb, .string un, .slice q7 ul d7] 67) := ⟨_, rfl⟩
          rw [← hw5]
          have J5 : Hid (Below w24.heap.size w24 w25) := Lib.hid (by rw [hw5]; exact below_alloc _ _)
          have HB5 : Hid (Has w25 w24.heap.size #[.bool xb, .string un, .slice q7 ul d7]) := Lib.hid (by rw [hw5]; exact Has.new _ _ _)
          have hz5 : w24.heap.size + 1 ≤ w25.heap.size := by rw [hw5]; simp
          clear hw5
          have X5 := Lib.hid (Lt.below X4.out J5.out)
          have K5 := Lib.hid (next0 K4.out J5.out)
          have HR5 := Lib.hid (HR4.out.step0 J5.out)
          have O5 := Lib.hid (O4.out.below J5.out)
          have S5 := Lib.hid (S4.out.frame (w' := w25) fun b o hb => J5.out.cell (p := ⟨b, o, none⟩) (okx1 OK0.out (show w.heap.size ≤ w24.heap.size by omega) (show hi ≤ w24.heap.size by omega) b hb))
          refine hK.out _ _ (Hb.out _ X5.out) (fun hHeld => ?_)
          clear hK K'
          (try simp only [List.getElem_toArray, List.getElem_cons_zero, List.getElem_cons_succ, Act.put, List.setIfInBounds_toArray, List.set_cons_zero, List.set_cons_succ])
          refine wpAnyH_ready (rs := [10]) (by kernel_rfl) (by simp) ?_
          refine (AllReadyH.cons rfl (fun K' hK => ?_) AllReadyH.nil)
          refine step_append_lies _ rfl _ _ 32 rfl (R + 1) 67 i0 (.agg #[.bool false, .string ⟨#[]⟩, .slice none 0 0]) 3 48 Tryz.underlying32 hi0 hi1 hi2 hi3 rfl (by decide) (.slice va L.length vc) L.length (KL.flat L) rfl O5.out.1 ⟨w24.heap.size, 0, none⟩ 1 1 [.bool xb, .string un, .slice q7 ul d7] rfl rfl (World.news_of_block HB5.out.choose_spec) (one_L _ _ _ _ _) (by decide) A1 A2 (show R + 1 ≤ w25.heap.size by omega) _ rfl ?_
          intro g9 c9 w9 hown hgrow hat hlt9
          have OL9 := OL.out
          have X9 := Lib.hid (Lt.grown X5.out hgrow (fun k e => Or.inl (Or.inr e)))
          have L9 : Hid (Lt (fun b => (Value.slice va L.length vc).ownBlock = some b) w25 w9) := Lib.hid (Lt.grown (Lt.of (Below.refl _ _)) hgrow (fun k e => Or.inl e))
          have HR9 := Lib.hid (L9.out.has HR5.out (fun e => by have := OL9 _ e; omega))
          have O9 := Lib.hid (OwnX.add (K := KL) (x := ((xb, φ x.2), Value.slice q7 ul d7)) O5.out (AD.out _ _ _ S5.out N7.out) (okx2 OK0.out (show w.heap.size ≤ R by omega) (show R + 1 ≤ lo by omega) (show w.heap.size ≤ w25.heap.size by omega) (show hi ≤ w25.heap.size by omega) (fun k e => by have := OL9 k e; omega)) (AF.out _ _ _ _ hown) L9.out (hat.imp id fun h => Nat.le_of_eq h.symm))
          have hz9 : w25.heap.size ≤ w9.heap.size := L9.out.size
          clear hown hgrow OL9
          refine hK.out _ _ (Hb.out _ X9.out) (fun hHeld => ?_)
          clear hK K'
          (try simp only [List.getElem_toArray, List.getElem_cons_zero, List.getElem_cons_succ, Act.put, List.setIfInBounds_toArray, List.set_cons_zero, List.set_cons_succ])
          refine wpAnyH_take (i := 11) (v := ?_) rfl (by kernel_rfl) (by kernel_rfl) (by kernel_rfl) (fun _ _ _ h => h) (Or.inl ⟨by rfl, ?_⟩) (by assumption) ?_
          rotate_left
          · intro w' hSw; (try dsimp only at hSw); (try simp only [List.getElem_toArray, List.getElem_cons_zero, List.getElem_cons_succ]); go_simp; try with_reducible rfl
          (try simp only [List.getElem_toArray, List.getElem_cons_zero, List.getElem_cons_succ, Act.put, List.setIfInBounds_toArray, List.set_cons_zero, List.set_cons_succ])
          refine wpAnyH_ready (rs := [12]) (by kernel_rfl) (by simp) ?_
          refine (AllReadyH.cons rfl (fun K' hK => ?_) AllReadyH.nil)
          obtain ⟨f1, f2, f3, f4, f5, f6, f7⟩ := UnpP.has3 HR9.out
          go_simp
          (try go_split_ands)
          obtain ⟨w10, hw10⟩ : ∃ z, z = w9.setCell ⟨R, 2, none⟩ (.slice (some ⟨g9, 0, none⟩) (L.length + 1) c9) := ⟨_, rfl⟩
          rw [← hw10]
          have X10 : Hid (Lt (fun b => b = R ∨ (Value.slice va L.length vc).ownBlock = some b) Wb w10) := Lib.hid (by rw [hw10]; exact X9.out.put (Or.inl (Or.inl rfl)) _)
          have HR10 : Hid (Has w10 R #[.string hu, .slice q hl d, .slice (some ⟨g9, 0, none⟩) (L.length + 1) c9]) := Lib.hid (by rw [hw10]; exact HR9.out.set 2 _)
          have P10 : Hid (Lt (· = R) w9 w10) := Lib.hid (by rw [hw10]; exact Lt.put (ex := (· = R)) (p := ⟨R, 2, none⟩) (Lt.of (Below.refl _ _)) (Or.inl rfl) _)
          have O10 := Lib.hid (O9.out.lt P10.out (fun i e => by subst e; exact ⟨by omega, fun h => by have := OK0.out _ h; omega⟩))
          have OL10 := OL.out
          have D10 := Lib.hid (next9 K.out X10.out (fun k e => by rcases e with e | e; omega; have := OL10 k e; omega))
          have E10 := Lib.hid (X10.out.has EQ5.out (fun e => by rcases e with e | e; omega; have := OL10 _ e; omega))
          have S10 := Lib.hid (SQ5.out.frame (w' := w10) fun b o hb => X10.out.cell (okx1 OK0.out (show w.heap.size ≤ Wb.heap.size by omega) (show R ≤ Wb.heap.size by omega) b hb) (fun e => by have h1 := okx1 OK0.out (show w.heap.size ≤ R by omega) (Nat.le_refl R) b hb; rcases e with e | e; omega; have := OL10 _ e; omega))
          clear hw10 f1 f2 f3 f4 f5 f6 f7 OL10
          refine hK.out _ _ (Hb.out _ X10.out) (fun hHeld => ?_)
          clear hK K'
          (try simp only [List.getElem_toArray, List.getElem_cons_zero, List.getElem_cons_succ, Act.put, List.setIfInBounds_toArray, List.set_cons_zero, List.set_cons_succ])
          refine wpAnyH_done (by kernel_rfl) ?_ _
          go_wp2_with fail
          go_roundw
          case rel => exact ⟨k + 1, L ++ [((xb, φ x.2), .slice q7 ul d7)], _, by omega, by go_num, Lib.hid (HM1.out _), O10, HR10, E10, S10, D10⟩
          case measure => simp [intOf]; omega
        · skip
          go_simp
          (try go_split_ands)
          obtain ⟨w27, hw7⟩ : ∃ z, z = w24.alloc (.cells #[.bool xb, .string un, .slice q7 ul d7] 67) := ⟨_, rfl⟩
          rw [← hw7]
          have J7 : Hid (Below w24.heap.size w24 w27) := Lib.hid (by rw [hw7]; exact below_alloc _ _)
          have HB7 : Hid (Has w27 w24.heap.size #[.bool xb, .string un, .slice q7 ul d7]) := Lib.hid (by rw [hw7]; exact Has.new _ _ _)
          have hz7 : w24.heap.size + 1 ≤ w27.heap.size := by rw [hw7]; simp
          clear hw7
          have X7 := Lib.hid (Lt.below X4.out J7.out)
          have K7 := Lib.hid (next0 K4.out J7.out)
          have HR7 := Lib.hid (HR4.out.step0 J7.out)
          have O7 := Lib.hid (O4.out.below J7.out)
          have S7 := Lib.hid (S4.out.frame (w' := w27) fun b o hb => J7.out.cell (p := ⟨b, o, none⟩) (okx1 OK0.out (show w.heap.size ≤ w24.heap.size by omega) (show hi ≤ w24.heap.size by omega) b hb))
          refine hK.out _ _ (Hb.out _ X7.out) (fun hHeld => ?_)
          clear hK K'
          (try simp only [List.getElem_toArray, List.getElem_cons_zero, List.getElem_cons_succ, Act.put, List.setIfInBounds_toArray, List.set_cons_zero, List.set_cons_succ])
          refine wpAnyH_ready (rs := [1]) (by kernel_rfl) (by simp) ?_
          refine (AllReadyH.cons rfl (fun K' hK => ?_) AllReadyH.nil)
          obtain ⟨f1, f2, f3, f4, f5, f6, f7⟩ := UnpP.has3 HR7.out
          go_simp
          (try go_split_ands)
          clear f1 f2 f3 f4 f5 f6 f7
          refine hK.out _ _ (Hb.out _ X7.out) (fun hHeld => ?_)
          clear hK K'
          (try simp only [List.getElem_toArray, List.getElem_cons_zero, List.getElem_cons_succ, Act.put, List.setIfInBounds_toArray, List.set_cons_zero, List.set_cons_succ])
          refine wpAnyH_ready (rs := [10]) (by kernel_rfl) (by simp) ?_
          refine (AllReadyH.cons rfl (fun K' hK => ?_) AllReadyH.nil)
          refine step_append_lies _ rfl _ _ 32 rfl (R + 1) 67 i0 (.agg #[.bool false, .string ⟨#[]⟩, .slice none 0 0]) 3 48 Tryz.underlying32 hi0 hi1 hi2 hi3 rfl (by decide) (.slice va L.length vc) L.length (KL.flat L) rfl O7.out.1 ⟨w24.heap.size, 0, none⟩ 1 1 [.bool xb, .string un, .slice q7 ul d7] rfl rfl (World.news_of_block HB7.out.choose_spec) (one_L _ _ _ _ _) (by decide) A1 A2 (show R + 1 ≤ w27.heap.size by omega) _ rfl ?_
          intro g9 c9 w9 hown hgrow hat hlt9
          have OL9 := OL.out
          have X9 := Lib.hid (Lt.grown X7.out hgrow (fun k e => Or.inl (Or.inr e)))
          have L9 : Hid (Lt (fun b => (Value.slice va L.length vc).ownBlock = some b) w27 w9) := Lib.hid (Lt.grown (Lt.of (Below.refl _ _)) hgrow (fun k e => Or.inl e))
          have HR9 := Lib.hid (L9.out.has HR7.out (fun e => by have := OL9 _ e; omega))
          have O9 := Lib.hid (OwnX.add (K := KL) (x := ((xb, φ x.2), Value.slice q7 ul d7)) O7.out (AD.out _ _ _ S7.out N7.out) (okx2 OK0.out (show w.heap.size ≤ R by omega) (show R + 1 ≤ lo by omega) (show w.heap.size ≤ w27.heap.size by omega) (show hi ≤ w27.heap.size by omega) (fun k e => by have := OL9 k e; omega)) (AF.out _ _ _ _ hown) L9.out (hat.imp id fun h => Nat.le_of_eq h.symm))
          have hz9 : w27.heap.size ≤ w9.heap.size := L9.out.size
          clear hown hgrow OL9
          refine hK.out _ _ (Hb.out _ X9.out) (fun hHeld => ?_)
          clear hK K'
          (try simp only [List.getElem_toArray, List.getElem_cons_zero, List.getElem_cons_succ, Act.put, List.setIfInBounds_toArray, List.set_cons_zero, List.set_cons_succ])
          refine wpAnyH_take (i := 11) (v := ?_) rfl (by kernel_rfl) (by kernel_rfl) (by kernel_rfl) (fun _ _ _ h => h) (Or.inl ⟨by rfl, ?_⟩) (by assumption) ?_
          rotate_left
          · intro w' hSw; (try dsimp only at hSw); (try simp only [List.getElem_toArray, List.getElem_cons_zero, List.getElem_cons_succ]); go_simp; try with_reducible rfl
          (try simp only [List.getElem_toArray, List.getElem_cons_zero, List.getElem_cons_succ, Act.put, List.setIfInBounds_toArray, List.set_cons_zero, List.set_cons_succ])
          refine wpAnyH_ready (rs := [12]) (by kernel_rfl) (by simp) ?_
          refine (AllReadyH.cons rfl (fun K' hK => ?_) AllReadyH.nil)
          obtain ⟨f1, f2, f3, f4, f5, f6, f7⟩ := UnpP.has3 HR9.out
          go_simp
          (try go_split_ands)
          obtain ⟨w10, hw10⟩ : ∃ z, z = w9.setCell ⟨R, 2, none⟩ (.slice (some ⟨g9, 0, none⟩) (L.length + 1) c9) := ⟨_, rfl⟩
          rw [← hw10]
          have X10 : Hid (Lt (fun b => b = R ∨ (Value.slice va L.length vc).ownBlock = some b) Wb w10) := Lib.hid (by rw [hw10]; exact X9.out.put (Or.inl (Or.inl rfl)) _)
          have HR10 : Hid (Has w10 R #[.string hu, .slice q hl d, .slice (some ⟨g9, 0, none⟩) (L.length + 1) c9]) := Lib.hid (by rw [hw10]; exact HR9.out.set 2 _)
          have P10 : Hid (Lt (· = R) w9 w10) := Lib.hid (by rw [hw10]; exact Lt.put (ex := (· = R)) (p := ⟨R, 2, none⟩) (Lt.of (Below.refl _ _)) (Or.inl rfl) _)
          have O10 := Lib.hid (O9.out.lt P10.out (fun i e => by subst e; exact ⟨by omega, fun h => by have := OK0.out _ h; omega⟩))
          have OL10 := OL.out
          have D10 := Lib.hid (next9 K.out X10.out (fun k e => by rcases e with e | e; omega; have := OL10 k e; omega))
          have E10 := Lib.hid (X10.out.has EQ5.out (fun e => by rcases e with e | e; omega; have := OL10 _ e; omega))
          have S10 := Lib.hid (SQ5.out.frame (w' := w10) fun b o hb => X10.out.cell (okx1 OK0.out (show w.heap.size ≤ Wb.heap.size by omega) (show R ≤ Wb.heap.size by omega) b hb) (fun e => by have h1 := okx1 OK0.out (show w.heap.size ≤ R by omega) (Nat.le_refl R) b hb; rcases e with e | e; omega; have := OL10 _ e; omega))
          clear hw10 f1 f2 f3 f4 f5 f6 f7 OL10
          refine hK.out _ _ (Hb.out _ X10.out) (fun hHeld => ?_)
          clear hK K'
          (try simp only [List.getElem_toArray, List.getElem_cons_zero, List.getElem_cons_succ, Act.put, List.setIfInBounds_toArray, List.set_cons_zero, List.set_cons_succ])
          refine wpAnyH_done (by kernel_rfl) ?_ _
          go_wp2_with fail
          go_roundw
          case rel => exact ⟨k + 1, L ++ [((xb, φ x.2), .slice q7 ul d7)], _, by omega, by go_num, Lib.hid (HM1.out _), O10, HR10, E10, S10, D10⟩
          case measure => simp [intOf]; omega
    · obtain rfl : k = n := by omega
      have MM : Hid (L.map (·.1) = atomsL φ l) := Lib.hid (by rw [hM.out, AE.out])
      have RW := hO.out.row
      have LI : Hid (LIn (fun b => ok0 b ∨ (R + 1 ≤ b ∧ b < wr.heap.size)) wr (atomsL φ l) (.slice va L.length vc)) := Lib.hid ⟨L, MM.out, RW⟩
      obtain ⟨f1, f2, f3, f4, f5, f6, f7⟩ := UnpP.has3 hRb.out
      obtain ⟨g1, g2, g3, g4, g5, g6, g7⟩ := UnpP.has3 hE.out
      obtain ⟨W9, hW9⟩ : ∃ z, z = ((wr.setCell ⟨w.heap.size + 1, 0, none⟩ (.string hu)).setCell ⟨w.heap.size + 1, 1, none⟩ (.slice q hl d)).setCell ⟨w.heap.size + 1, 2, none⟩ (.slice va L.length vc) := ⟨_, rfl⟩
      have R6 := put3 hE.out (.string hu) (.slice q hl d) (.slice va L.length vc)
      obtain ⟨r1, r2, r3⟩ := UniA.three R6
      have P9 : Hid (Lt (· = w.heap.size + 1) wr W9) := Lib.hid (by rw [hW9]; exact Lt.put (ex := (· = w.heap.size + 1)) (p := ⟨w.heap.size + 1, 2, none⟩) (Lt.put (ex := (· = w.heap.size + 1)) (p := ⟨w.heap.size + 1, 1, none⟩) (Lt.put (ex := (· = w.heap.size + 1)) (p := ⟨w.heap.size + 1, 0, none⟩) (Lt.of (Below.refl _ _)) (Or.inl rfl) _) (Or.inl rfl) _) (Or.inl rfl) _)
      have D9 := Lib.hid (next9 hD.out P9.out (fun i e => by subst e; omega))
      have hz9 := P9.out.size
      have S9 := Lib.hid (hS.out.frame (w' := W9) fun b o hb => P9.out.cell (okx1 OK0.out hD.out.size (show R ≤ wr.heap.size by omega) b hb) (fun e => by rcases hb with hb | hb; have := OK0.out b hb; omega; omega))
      have L9 := Lib.hid (LI.out.keep (w' := W9) fun b o hb => P9.out.cell (okx1 OK0.out hD.out.size (Nat.le_refl _) b hb) (fun e => by rcases hb with hb | hb; have := OK0.out b hb; omega; omega))
      have X9 : Hid (RuX ok0 u (atomsL φ l) w (.returned (.agg #[.string hu, .slice q hl d, .slice va L.length vc])) W9) := Lib.hid ⟨q, d, _, by rw [HHU.out, HHL.out], by rw [HHL.out]; exact S9.out.weaken fun b hb => hb.imp id fun h => ⟨by omega, by omega⟩, L9.out.wide fun b hb => hb.imp id fun h => ⟨by omega, by omega⟩, by rw [HHU.out]; exact NU.out, D9.out⟩
      have HW9 := Lib.hid hW9
      clear R6 RW LI MM S9 L9 P9 D9 hz9 hW9
      go_wp2_with fail
      refine bodyPost_ret (v := .agg #[.string hu, .slice q hl d, .slice va L.length vc]) (by simp [results, Tryz.results48, go_sem, r1, r2, r3]) rfl ?_
      rw [← HW9.out]
      exact X9.out
end UnqB
end Go.Proofs.YtjfgnmmcdgpiiaaGreatDoor
