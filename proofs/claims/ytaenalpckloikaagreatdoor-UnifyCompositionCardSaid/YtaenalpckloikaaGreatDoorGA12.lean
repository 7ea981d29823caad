/- Texts laid together: UniQ; UniT; UniV; UniW; UniX. Their own heads stand before each. -/
import Derived.Test.YtaenalpckloikaaGreatDoorGA11
import Derived.Deep.RegionLaw
import Derived.Test.YtaenalpckloikaaGreatDoorGA1
import Derived.Deep.RegionWith
import Derived.BigQuiet
import Derived.Deep.RegionHeld3
import Derived.Deep.DeepCutAuto
/- The code's Match. Conditions: the substitution's terms and the ground term have at most a million parts. -/
namespace Go.Proofs.YtaenalpckloikaaGreatDoor
open Go Go.RowKit
namespace UniQ
open LexM TermM TermI Kit TermN TermU TermH UniK UniM UniA UniC UniD UniE UniG UniJ UniO UniL UniP
set_option maxRecDepth 100000 in
set_option maxHeartbeats 6400000 in
theorem match_any (p t : Tm) (s : List Bd) (hz : sizeT t ≤ 1000000) (hsz : ∀ y ∈ s, sizeT y.2 ≤ 1000000) (B : Nat) (w : World) (sv pv tv : Value) (hB : B ≤ w.heap.size) (hs : SIn (· < B) w s sv) (hp : SlIn (· < B) w p.args pv) (ht : SlIn (· < B) w t.args tv) (hpn : p.nm.size ≤ maxLen) (htn : t.nm.size ≤ maxLen) :
    Calls Tryz.prog 26 #[.agg #[.string p.nm, pv], .agg #[.string t.nm, tv], sv] w (MtR (matchP p t s) w) := by
  obtain ⟨i0, hi, hz0, hz1, hz2⟩ := info_parts infoB
  obtain ⟨p1, c1, rfl⟩ := hp.form
  obtain ⟨p2, c2, rfl⟩ := ht.form
  obtain ⟨W2, hW2⟩ : ∃ W2, W2 = (w.alloc (.cells #[.string p.nm, .slice p1 p.args.length c1] 27)).alloc (.cells #[.string t.nm, .slice p2 t.args.length c2] 27) := ⟨_, rfl⟩
  have G2 : Gr w W2 := by rw [hW2]; exact (Gr.alloc _ _).more _
  have H2 : Hid (Has W2 w.heap.size #[.string p.nm, .slice p1 p.args.length c1]) := Lib.hid (by rw [hW2]; exact (Has.new w _ _).alloc _)
  have T2 : Hid (Has W2 (w.heap.size + 1) #[.string t.nm, .slice p2 t.args.length c2]) := Lib.hid (by rw [hW2]; exact Has.new1 w _ _ _)
  have CV := Lib.hid (fun w' (k : Below w.heap.size w w') => cvalid_any s B w' sv (Nat.le_trans hB k.size) (hs.deep k hB))
  have CE := Lib.hid (fun (hv : vldS s = true) w' (k : Below w.heap.size w w') => ext_any p t s (vld_srt hv).1 (vld_srt hv).2 B w' sv _ _ (Nat.le_trans hB k.size) (hs.deep k hB) (hp.deep k hB) (ht.deep k hB) hpn htn)
  have CG := Lib.hid (fun w' (k : Below w.heap.size w w') => ground_any t B w' _ (Nat.le_trans hB k.size) htn (ht.deep k hB) hz)
  rw [ground_eq] at CG
  have MP : Hid (matchP p t s = if vldS s && validT true 4 t then extP true p t s else none) := Lib.hid rfl
  have KS := Lib.hid (fun s' (e : extP true p t s = some s') => ext_all (P := fun y => sizeT y.2 ≤ 1000000) (Q := fun t => sizeT t ≤ 1000000) (fun n l h x hx => by have := size_mem hx; simp only [sizeT] at h; omega) (fun v t _ h => h) true p t s s' e hsz hz)
  have KP := Lib.hid (fun (hv : vldS s = true) s' (e : extP true p t s = some s') => (ext_keeps true p t s s' (vld_srt hv).1 e).2.2.2 rfl (vld_srt hv).2)
  have GG := Lib.hid G2
  clear hs hp ht hpn htn hz hsz G2
  obtain ⟨vb, hvb⟩ : ∃ vb, vldS s = vb := ⟨_, rfl⟩
  rw [hvb] at CV MP CE KP
  generalize validT true 4 t = gb at *
  generalize p.nm = pn at *
  generalize p.args.length = pa at *
  generalize t.nm = tn at *
  generalize t.args.length = ta at *
  clear hvb
  obtain ⟨y1, y2, y3, y4, y5⟩ := H2.out.two
  unfold BndR at CE
  cases vb
  · clear CE CG KS KP
    go_enter Tryz.func26, Tryz.ntmps26
    go_upto_region 1 with fail
    rw [← hW2]
    clear hW2
    go_wp2_with fail
    refine (CV.out _ GG.out.1).mono ?_
    rintro e w3 ⟨rfl, g3⟩
    have D3 := Lib.hid (next0 GG.out.1 g3.1)
    go_wp2_with fail
    refine bodyPost_ret (v := .tuple #[.slice none 0 0, .bool false]) (by simp [results, Tryz.results26, go_sem]) rfl ?_
    unfold MtR
    exact ⟨_, false, rfl, (fun h => by cases h), (fun _ => ⟨by rw [MP.out]; simp, rfl⟩), D3.out⟩
  · go_enter Tryz.func26, Tryz.ntmps26
    go_upto_region 1 with fail
    rw [← hW2]
    clear hW2
    go_wp2_with fail
    refine (CV.out _ GG.out.1).mono ?_
    rintro e w3 ⟨rfl, g3⟩
    have D3 := Lib.hid (next0 GG.out.1 g3.1)
    have T3 := Lib.hid (T2.out.step0 g3.1)
    have H3 := Lib.hid (H2.out.step0 g3.1)
    clear y1 y2 y3 y4 y5 g3 T2 H2 CV
    obtain ⟨y1, y2, y3, y4, y5⟩ := H3.out.two
    obtain ⟨z1, z2, z3, z4, z5⟩ := T3.out.two
    go_wp2_with fail
    refine (CE.out trivial _ D3.out).mono ?_
    rintro e w4 ⟨v4, f, rfl, h1, h2, hb4⟩
    have D4 := Lib.hid (next0 D3.out hb4)
    have T4 := Lib.hid (T3.out.step0 hb4)
    clear y1 y2 y3 y4 y5 z1 z2 z3 z4 z5 hb4 T3 H3
    obtain ⟨z1, z2, z3, z4, z5⟩ := T4.out.two
    cases f
    · have E0 := Lib.hid (h2 rfl)
      clear h1 h2 KS KP
      go_wp2_with fail
      refine bodyPost_ret (v := .tuple #[.slice none 0 0, .bool false]) (by simp [results, Tryz.results26, go_sem]) rfl ?_
      unfold MtR
      exact ⟨_, false, rfl, (fun h => by cases h), (fun _ => ⟨by rw [MP.out, E0.out]; simp, rfl⟩), D4.out⟩
    · obtain ⟨s9, he, hI⟩ := h1 rfl
      have E9 := Lib.hid he
      have I9 := Lib.hid hI
      clear h1 h2 he hI
      go_wp2_with fail
      refine (CG.out _ D4.out).mono ?_
      rintro e w5 ⟨rfl, hb5⟩
      have D5 := Lib.hid (next0 D4.out hb5)
      cases gb
      · go_wp2_with fail
        refine bodyPost_ret (v := .tuple #[.slice none 0 0, .bool false]) (by simp [results, Tryz.results26, go_sem]) rfl ?_
        unfold MtR
        exact ⟨_, false, rfl, (fun h => by cases h), (fun _ => ⟨by rw [MP.out]; simp, rfl⟩), D5.out⟩
      · have EO : Hid (matchP p t s = some s9) := Lib.hid (by rw [MP.out, E9.out]; simp)
        have SZ := Lib.hid (KS.out s9 E9.out)
        have hm64 := KP.out trivial s9 E9.out
        obtain ⟨p9, c9, rfl, hc9, hm9, hR⟩ := SIn.row ((I9.out.deep hb5 (Nat.le_refl _)).wide (ok' := (· < w5.heap.size)) fun b hb => Nat.lt_of_lt_of_le hb hb5.size)
        have HR := Lib.hid hR
        clear hR hb5 CG CE MP KS KP T4 z1 z2 z3 z4 z5 E9
        generalize hsl : s9.length = m at *
        have HSL := Lib.hid hsl
        clear hsl
        obtain ⟨wm, M, O, G⟩ := run_make_full (P := Tryz.prog) w5 w5.heap.size 22 52 i0 _ 3 Tryz.underlying22 hi hz0 hz1 .i64 .i64 m (by rw [hz2]; omega) (by unfold maxLen; omega) (Nat.le_refl _)
        have O0 : Hid (wm.ownsRow w5.heap.size 52 3 (.slice (some ⟨w5.heap.size, 0, none⟩) m m) m (KB.flat [] ++ restB m)) := Lib.hid (by rw [madeb_rest] at O; exact O)
        have Bm := Lib.hid ((Below.refl w5.heap.size w5).grown G (Nat.le_refl _) (fun k h => by cases h))
        clear O G
        have CL := Lib.hid (fun (x : Bd) (hx : x ∈ s9) (w' : World) v (hB' : w5.heap.size ≤ w'.heap.size) (h : SlIn (· < w5.heap.size) w' x.2.args v) (hn : x.2.nm.size ≤ maxLen) => clone_any x.2 w5.heap.size w' v hB' h hn (SZ.out x hx))
        go_wp2_with fail
        go_loopw [35] (fun i wr => ∃ (k : Nat) (L : List (Bd × Value)), k ≤ m ∧ i = .int .i64 k ∧ Hid (L.map (·.1) = s9.take k) ∧ Hid (wr.ownsRow w5.heap.size 52 3 (.slice (some ⟨w5.heap.size, 0, none⟩) m m) m (KB.flat L ++ restB (m - k))) ∧ Hid (∀ x ∈ L, KB.inn (fun b => w5.heap.size < b ∧ b < wr.heap.size) wr x) ∧ Hid (Below w5.heap.size w5 wr) ∧ w5.heap.size < wr.heap.size) (fun i _ => m - (intOf i).toNat)
        case atStart => exact ⟨0, [], Nat.zero_le _, rfl, Lib.hid rfl, O0, Lib.hid (fun x hx => absurd hx (List.not_mem_nil)), Bm, (World.ownsRow.lt O0.out _ rfl).2⟩
        case round =>
          obtain ⟨k, L, hk, rfl, hL, hO, hI, hD, hsz⟩ := hrel
          have hLl : L.length = k := by
            have := congrArg List.length hL.out
            rw [List.length_map, List.length_take, HSL.out] at this
            omega
          by_cases hlt : k < m
          · obtain ⟨x, b, o, q, d, hx, rfl, hb, c1', c2', c3', hs, hts, htv⟩ := (RowS.deep HR.out hD.out (Nat.le_refl _)) k (by rw [HSL.out]; exact hlt)
            have TT := Lib.hid (take_get s9 k x hx)
            obtain ⟨W6, hW6⟩ : ∃ W6, W6 = wr.alloc (.cells #[.string x.1, .string x.2.nm, .slice q x.2.args.length d] 52) := ⟨_, rfl⟩
            have K6 : Hid (Below wr.heap.size wr W6) := Lib.hid (by rw [hW6]; exact below_alloc _ _)
            have T6 : Hid (Has W6 wr.heap.size #[.string x.1, .string x.2.nm, .slice q x.2.args.length d]) := Lib.hid (by rw [hW6]; exact Has.new _ _ _)
            have CI := Lib.hid (fun w' (g : Below wr.heap.size wr w') => CL.out x (List.mem_of_getElem? hx) w' _ (Nat.le_trans hD.out.size g.size) (hs.deep g hD.out.size) hts)
            have XV := Lib.hid htv
            have t1 := T6.out.cell 0
            have t2 := T6.out.cell 1
            have t3 := T6.out.cell 2
            simp only [List.getElem?_toArray, List.getElem?_cons_zero, List.getElem?_cons_succ] at t1 t2 t3
            obtain ⟨r1, r2, r3⟩ := restb_at L (m - k) (by omega)
            rw [hLl] at r1 r2 r3
            have R1 := Lib.hid r1
            have R2 := Lib.hid r2
            have R3 := Lib.hid r3
            have HZ6 : Hid (W6.heap.size = wr.heap.size + 1) := Lib.hid (by rw [hW6]; simp)
            have RW := Lib.hid (fun (w7 : World) (h7 : Below wr.heap.size wr w7) => by
              have O7 := own_bel hO.out h7 (fun g h => by cases h; exact hsz)
              exact And.intro ((O7.cellAt (k * 3) (by omega)).trans r1) (And.intro ((O7.cellAt (k * 3 + 1) (by omega)).trans r2) (And.intro ((O7.cellAt (k * 3 + 1 + 1) (by omega)).trans r3) (And.intro (O7.frozenAt (k * 3)) (And.intro (O7.frozenAt (k * 3 + 1)) (O7.frozenAt (k * 3 + 1 + 1)))))))
            have TF : Hid (∀ w7, Below W6.heap.size W6 w7 → w7.cell? ⟨wr.heap.size, 0, none⟩ = some (.string x.1)) := Lib.hid (fun w7 h => (T6.out.step0 h).cell 0)
            clear r1 r2 r3
            have FIN : Hid (∀ (w7 : World) (q7 : Option Addr) (d7 : Nat), Below wr.heap.size wr w7 → SlIn (fun b => wr.heap.size < b ∧ b < w7.heap.size) w7 x.2.args (.slice q7 x.2.args.length d7) → x.2.nm.size ≤ maxLen →
                ∀ w8, w8 = ((w7.setCell ⟨w5.heap.size, k * 3, none⟩ (.string x.1)).setCell ⟨w5.heap.size, k * 3 + 1, none⟩ (.string x.2.nm)).setCell ⟨w5.heap.size, k * 3 + 1 + 1, none⟩ (.slice q7 x.2.args.length d7) →
                Hid ((L ++ [(x, Value.slice q7 x.2.args.length d7)]).map (·.1) = s9.take (k + 1)) ∧ Hid (w8.ownsRow w5.heap.size 52 3 (.slice (some ⟨w5.heap.size, 0, none⟩) m m) m (KB.flat (L ++ [(x, Value.slice q7 x.2.args.length d7)]) ++ restB (m - (k + 1)))) ∧ Hid (∀ y ∈ L ++ [(x, Value.slice q7 x.2.args.length d7)], KB.inn (fun b => w5.heap.size < b ∧ b < w8.heap.size) w8 y) ∧ Hid (Below w5.heap.size w5 w8) ∧ w5.heap.size < w8.heap.size) := Lib.hid (by
              rintro w7 q7 d7 h7 hs7 hn7 w8 rfl
              have O7 := own_bel hO.out h7 (fun g h => by cases h; exact hsz)
              have ST1 := O7.stored (k * 3) (.string x.1)
              have ST2 := ST1.1.stored (k * 3 + 1) (.string x.2.nm)
              have ST3 := ST2.1.stored (k * 3 + 1 + 1) (.slice q7 x.2.args.length d7)
              have NX := restb_set L x (.slice q7 x.2.args.length d7) (m - k) (by omega)
              rw [hLl] at NX
              have FAR : ∀ b o, b ≠ w5.heap.size → (((w7.setCell ⟨w5.heap.size, k * 3, none⟩ (.string x.1)).setCell ⟨w5.heap.size, k * 3 + 1, none⟩ (.string x.2.nm)).setCell ⟨w5.heap.size, k * 3 + 1 + 1, none⟩ (.slice q7 x.2.args.length d7)).cell? ⟨b, o, none⟩ = w7.cell? ⟨b, o, none⟩ := fun b o hb => by rw [cell_far hb, cell_far hb, cell_far hb]
              have z7 := h7.size
              refine ⟨Lib.hid (by rw [List.map_append, hL.out, TT.out]; rfl), Lib.hid (by have := ST3.1; rw [NX] at this; rw [show m - (k + 1) = m - k - 1 by omega]; exact this), Lib.hid (fun y hy => ?_), Lib.hid ((((next0 hD.out (h7.mono (Nat.le_refl _))).setCell (Nat.le_refl _) _).setCell (Nat.le_refl _) _).setCell (Nat.le_refl _) _), by simp only [World.setCell, Array.size_modify]; omega⟩
              rcases List.mem_append.1 hy with hy | hy
              · have := KB.keep (hI.out y hy) (w' := w7) fun b o hb => h7.cell (p := ⟨b, o, none⟩) hb.2
                have := KB.keep this (fun b o hb => FAR b o (by omega))
                exact KB.wide this fun b hb => ⟨hb.1, by simp only [World.setCell, Array.size_modify]; omega⟩
              · obtain rfl := List.mem_singleton.1 hy
                have : KB.inn (fun b => wr.heap.size < b ∧ b < w7.heap.size) w7 (x, Value.slice q7 x.2.args.length d7) := ⟨hs7, hn7, XV.out⟩
                have := KB.keep this (fun b o hb => FAR b o (by omega))
                exact KB.wide this fun b hb => ⟨by omega, by simp only [World.setCell, Array.size_modify]; omega⟩)
            clear hs hts htv hx
            unfold RepR at CI
            generalize x.1 = xv at *
            generalize x.2.nm = xn at *
            generalize x.2.args.length = xa at *
            go_upto_region 10 with fail
            rw [← hW6]
            clear c1' c2' c3'
            clear hW6 R1 R2 R3
            go_region_law (first
              | (go_simp; go_at_call 42; (with_reducible refine (CI.out _ (by first | exact K6.out | exact K6.out.drew | exact below_drewN K6.out _)).mono ?_); rintro e w7 ⟨q7, d7, rfl, hS7, hn7, hb7⟩; have B7 : Below W6.heap.size W6 w7 := (by first | exact hb7 | exact next0 (Below.refl _ _).drew hb7 | exact next0 (below_drewN (Below.refl _ _) _) hb7); have D7 : Hid (Below wr.heap.size wr w7) := Lib.hid (next0 K6.out B7); have S7 := Lib.hid (hS7.weaken (ok' := fun b => wr.heap.size < b ∧ b < w7.heap.size) (fun b hb => ⟨by have := HZ6.out; have h6 : W6.heap.size ≤ b := hb.1; omega, hb.2⟩)); have N7 := Lib.hid hn7; obtain ⟨a1, a2, a3, a4, a5, a6⟩ := RW.out w7 D7.out; have a7 := TF.out w7 B7; clear hS7 hn7 hb7 B7))
            all_goals
              go_wp2_with fail
              go_roundw
              case rel => exact ⟨k + 1, _, by omega, by go_num, FIN.out w7 q7 d7 D7.out S7.out N7.out _ rfl⟩
              case measure => simp [intOf]; omega
          · obtain rfl : k = m := by omega
            have HL : Hid (L.map (·.1) = s9) := Lib.hid (by rw [hL.out, ← HSL.out]; simp)
            have OW := hO.out
            rw [Nat.sub_self, show restB 0 = [] from rfl, List.append_nil] at OW
            have S4 : Hid (SIn (· < wr.heap.size) wr s9 (.slice (some ⟨w5.heap.size, 0, none⟩) k k)) := Lib.hid (by
              rw [← HL.out]
              exact (sin_own hLl OW hI.out hsz).wide fun b hb => hb.2)
            clear OW
            go_wp2_with fail
            refine bodyPost_ret (v := .tuple #[.slice (some ⟨w5.heap.size, 0, none⟩) k k, .bool true]) (by simp [results, Tryz.results26, go_sem]) rfl ?_
            unfold MtR
            exact ⟨_, true, rfl, (fun _ => ⟨s9, EO.out, S4.out⟩), (fun h => by cases h), next0 D5.out hD.out⟩
end UniQ
end Go.Proofs.YtaenalpckloikaaGreatDoor
/- The reference's Match, which answers as the code's does. Condition: bindings and pattern together at most a million. -/
namespace Go.Proofs.YtaenalpckloikaaGreatDoor
open Go Go.RowKit
namespace UniT
open LexM TermM TermI Kit TermN TermU TermH UniK UniM UniA UniB UniC UniD UniE UniG UniJ UniO UniL UniP UniR UniS
theorem extl_keeps (lim : Bool) : ∀ (l r : List Tm) (s s' : List Bd), Srt s → extL lim l r s = some s' → Keeps lim (sizeL l) s s'
  | [], r, s, s', hS, h => by
    unfold extL at h
    cases h
    exact ⟨hS, Nat.le_refl _, by omega, fun _ h => h⟩
  | a :: l, [], s, s', hS, h => by unfold extL at h; cases h
  | a :: l, t :: r, s, s', hS, h => by
    unfold extL at h
    split at h
    · rename_i s1 h1
      obtain ⟨a1, a2, a3, a4⟩ := ext_keeps lim a t s s1 hS h1
      obtain ⟨b1, b2, b3, b4⟩ := extl_keeps lim l r s1 s' a1 h
      exact ⟨b1, by omega, by simp only [sizeL]; omega, fun e h => b4 e (a4 e h)⟩
    · cases h
/-- With the limit: the same, or none where it is passed. -/
def cut64 (o : Option (List Bd)) : Option (List Bd) := match o with
  | some s => if s.length ≤ 64 then some s else none
  | none => none
theorem bind_none {s : List Bd} {v : ByteArray} {t : Tm} (h : bindP false s v t = none) : bindP true s v t = none := by
  unfold bindP at h ⊢
  split at h
  · split at h
    · cases h
    · simp_all
  · simp at h
theorem ext_lim (p : Tm) : ∀ (t : Tm) (s : List Bd), Srt s → s.length ≤ 64 → extP true p t s = cut64 (extP false p t s) := by
  induction p using Tm.ind with
  | h n l ih =>
    intro t s hS hs
    unfold extP
    split
    · cases hb : bindP false s n t with
      | none => rw [bind_none hb]; rfl
      | some s' =>
        rw [bind_lim hb]
        unfold cut64
        by_cases h : s'.length ≤ 64
        · rw [if_neg (by omega)]; simp [h]
        · rw [if_pos (by omega)]; simp [h]
    · split
      · have key : ∀ (l : List Tm), (∀ x ∈ l, ∀ (t : Tm) (s : List Bd), Srt s → s.length ≤ 64 → extP true x t s = cut64 (extP false x t s)) → ∀ (r : List Tm) (s : List Bd), Srt s → s.length ≤ 64 → extL true l r s = cut64 (extL false l r s) := by
          intro l
          induction l with
          | nil =>
            intro _ r s _ hs
            simp [extL, cut64, hs]
          | cons a l ihl =>
            intro hx r s hS hs
            cases r with
            | nil => simp [extL, cut64]
            | cons t r =>
              unfold extL
              rw [hx a (by simp) t s hS hs]
              cases he : extP false a t s with
              | none => simp [cut64]
              | some s1 =>
                have hS1 := (ext_keeps false a t s s1 hS he).1
                by_cases h1 : s1.length ≤ 64
                · simp only [cut64, h1, if_true]
                  exact ihl (fun x hx' => hx x (by simp [hx'])) r s1 hS1 h1
                · simp only [cut64, h1, if_false]
                  cases hl : extL false l r s1 with
                  | none => rfl
                  | some s2 =>
                    have := (extl_keeps false l r s1 s2 hS1 hl).2.1
                    simp only
                    rw [if_neg (by omega)]
        exact key l ih t.args s hS hs
      · rfl
theorem valid_step (g : Bool) : ∀ (d : Nat) (t : Tm), validT g d t = true → validT g (d + 1) t = true
  | 0, t, h => by cases t; simp [validT] at h
  | d + 1, .mk n l, h => by
    unfold validT at h ⊢
    split at h
    · rename_i he
      rw [if_pos he]
      exact h
    · rename_i he
      rw [if_neg he]
      rw [Bool.and_eq_true, List.all_eq_true] at h ⊢
      exact ⟨h.1, fun x hx => valid_step g d x (h.2 x hx)⟩
theorem valid_up (g : Bool) {d e : Nat} (h : d ≤ e) {t : Tm} (hv : validT g d t = true) : validT g e t = true := by
  induction h with
  | refl => exact hv
  | step _ ih => exact valid_step g _ t ih
theorem srt_asc : ∀ s : List Bd, Srt s → ascB s = true
  | [], _ => rfl
  | [x], _ => rfl
  | a :: b :: r, h => by
    unfold ascB
    rw [Bool.and_eq_true]
    exact ⟨lt_lex.2 (h 0 1 a b (by omega) rfl rfl), srt_asc (b :: r) (srt_tail h)⟩
theorem vld_of {s : List Bd} (h1 : s.length ≤ 64) (h2 : Srt s) (h3 : ∀ y ∈ s, varB y.1 = true ∧ validT false 4 y.2 = true) : vldS s = true := by
  unfold vldS
  rw [Bool.and_eq_true, Bool.and_eq_true, decide_eq_true_eq, List.all_eq_true]
  exact ⟨h1, fun y hy => by rw [Bool.and_eq_true]; exact h3 y hy, srt_asc s h2⟩
theorem vld_all {s : List Bd} (h : vldS s = true) : ∀ y ∈ s, varB y.1 = true ∧ validT false 4 y.2 = true := by
  unfold vldS at h
  rw [Bool.and_eq_true, Bool.and_eq_true, List.all_eq_true] at h
  intro y hy
  have := h.2.1 y hy
  rw [Bool.and_eq_true] at this
  exact this
/-- What is bound by matching a ground term is valid. -/
theorem ext_vld {lim : Bool} {p t : Tm} {s s' : List Bd} (hs : vldS s = true) (ht : validT true 4 t = true) (h : extP lim p t s = some s') : ∀ y ∈ s', varB y.1 = true ∧ validT false 4 y.2 = true := by
  refine ext_all (P := fun y => varB y.1 = true ∧ validT false 4 y.2 = true) (Q := fun t => ∃ d, d ≤ 4 ∧ validT true d t = true) ?_ ?_ lim p t s s' h (vld_all hs) ⟨4, Nat.le_refl _, ht⟩
  · rintro n l ⟨d, hd, h⟩ x hx
    cases d with
    | zero => simp [validT] at h
    | succ d =>
      unfold validT at h
      split at h
      · rename_i he
        cases l with
        | nil => cases hx
        | cons a l => simp at he
      · rw [Bool.and_eq_true, List.all_eq_true] at h
        exact ⟨d, by omega, h.2 x hx⟩
  · rintro v t hv ⟨d, hd, h⟩
    exact ⟨hv, valid_up false hd ((ground_leaf d t).1 h).1⟩
theorem match_eq (p t : Tm) (s : List Bd) (hs : vldS s = true) (ht : validT true 4 t = true) : matchP p t s = match extP false p t s with
    | some s' => if vldS s' = true then some s' else none
    | none => none := by
  unfold matchP
  rw [hs, ht]
  simp only [Bool.and_self, if_true]
  rw [ext_lim p t s (vld_srt hs).1 (vld_srt hs).2]
  cases he : extP false p t s with
  | none => rfl
  | some s' =>
    have h1 := (ext_keeps false p t s s' (vld_srt hs).1 he).1
    have h2 := ext_vld hs ht he
    unfold cut64
    simp only
    by_cases hl : s'.length ≤ 64
    · rw [if_pos hl, if_pos (vld_of hl h1 h2)]
    · rw [if_neg hl, if_neg (fun h => hl (vld_srt h).2)]
set_option maxRecDepth 100000 in
set_option maxHeartbeats 3200000 in
theorem rmatch_any (p t : Tm) (s : List Bd) (hz : sizeT p ≤ 900000) (B : Nat) (w : World) (sv pv tv : Value) (hB : B ≤ w.heap.size) (hs : SIn (· < B) w s sv) (hp : SlIn (· < B) w p.args pv) (ht : SlIn (· < B) w t.args tv) (hpn : p.nm.size ≤ maxLen) (htn : t.nm.size ≤ maxLen) :
    Calls Tryz.prog 27 #[.agg #[.string p.nm, pv], .agg #[.string t.nm, tv], sv] w (MtR (matchP p t s) w) := by
  obtain ⟨p1, c1, rfl⟩ := hp.form
  obtain ⟨p2, c2, rfl⟩ := ht.form
  obtain ⟨W2, hW2⟩ : ∃ W2, W2 = (w.alloc (.cells #[.string p.nm, .slice p1 p.args.length c1] 27)).alloc (.cells #[.string t.nm, .slice p2 t.args.length c2] 27) := ⟨_, rfl⟩
  have G2 : Gr w W2 := by rw [hW2]; exact (Gr.alloc _ _).more _
  have H2 : Hid (Has W2 w.heap.size #[.string p.nm, .slice p1 p.args.length c1]) := Lib.hid (by rw [hW2]; exact (Has.new w _ _).alloc _)
  have T2 : Hid (Has W2 (w.heap.size + 1) #[.string t.nm, .slice p2 t.args.length c2]) := Lib.hid (by rw [hW2]; exact Has.new1 w _ _ _)
  have CV := Lib.hid (fun w' (k : Below w.heap.size w w') => rvalid_any s B w' sv (Nat.le_trans hB k.size) (hs.deep k hB))
  have CE := Lib.hid (fun (hv : vldS s = true) w' (k : Below w.heap.size w w') => rext_any p t s (vld_srt hv).1 (by have := (vld_srt hv).2; omega) B w' sv _ _ (Nat.le_trans hB k.size) (hs.deep k hB) (hp.deep k hB) (ht.deep k hB) hpn htn)
  have CG := Lib.hid (fun w' (k : Below w.heap.size w w') => TermV.rground_any t B w' _ (Nat.le_trans hB k.size) htn (ht.deep k hB))
  have MN : Hid (vldS s = false ∨ validT true 4 t = false → matchP p t s = none) := Lib.hid (fun h => by
    unfold matchP
    rcases h with h | h <;> simp [h])
  have MO := Lib.hid (fun (hs : vldS s = true) (ht : validT true 4 t = true) (he : extP false p t s = none) => show matchP p t s = none from by rw [match_eq p t s hs ht, he])
  have MS := Lib.hid (fun (hs : vldS s = true) (ht : validT true 4 t = true) s' (he : extP false p t s = some s') => show matchP p t s = if vldS s' = true then some s' else none from by rw [match_eq p t s hs ht, he])
  have GG := Lib.hid G2
  clear hs hp ht hpn htn hz G2
  obtain ⟨vb, hvb⟩ : ∃ vb, vldS s = vb := ⟨_, rfl⟩
  rw [hvb] at CV MN CE MO MS
  generalize validT true 4 t = gb at *
  generalize p.nm = pn at *
  generalize p.args.length = pa at *
  generalize t.nm = tn at *
  generalize t.args.length = ta at *
  clear hvb
  obtain ⟨y1, y2, y3, y4, y5⟩ := T2.out.two
  unfold BndR at CE
  cases vb
  · clear CE CG MO MS
    have EO := Lib.hid (MN.out (Or.inl rfl))
    go_enter Tryz.func27, Tryz.ntmps27
    go_upto_region 1 with fail
    rw [← hW2]
    clear hW2
    go_wp2_with fail
    refine (CV.out _ GG.out.1).mono ?_
    rintro e w3 ⟨rfl, g3⟩
    have D3 := Lib.hid (next0 GG.out.1 g3.1)
    go_wp2_with fail
    refine bodyPost_ret (v := .tuple #[.slice none 0 0, .bool false]) (by simp [results, Tryz.results27, go_sem]) rfl ?_
    unfold MtR
    exact ⟨_, false, rfl, (fun h => by cases h), (fun _ => ⟨EO.out, rfl⟩), D3.out⟩
  · go_enter Tryz.func27, Tryz.ntmps27
    go_upto_region 1 with fail
    rw [← hW2]
    clear hW2
    go_wp2_with fail
    refine (CV.out _ GG.out.1).mono ?_
    rintro e w3 ⟨rfl, g3⟩
    have D3 := Lib.hid (next0 GG.out.1 g3.1)
    have T3 := Lib.hid (T2.out.step0 g3.1)
    have H3 := Lib.hid (H2.out.step0 g3.1)
    clear y1 y2 y3 y4 y5 g3 T2 H2
    obtain ⟨y1, y2, y3, y4, y5⟩ := T3.out.two
    go_wp2_with fail
    refine (CG.out _ D3.out).mono ?_
    rintro e w4 ⟨rfl, g4⟩
    have D4 := Lib.hid (next0 D3.out g4.1)
    cases gb
    · have EO := Lib.hid (MN.out (Or.inr rfl))
      clear CE MO MS
      go_wp2_with fail
      refine bodyPost_ret (v := .tuple #[.slice none 0 0, .bool false]) (by simp [results, Tryz.results27, go_sem]) rfl ?_
      unfold MtR
      exact ⟨_, false, rfl, (fun h => by cases h), (fun _ => ⟨EO.out, rfl⟩), D4.out⟩
    · have T4 := Lib.hid (T3.out.step0 g4.1)
      have H4 := Lib.hid (H3.out.step0 g4.1)
      clear y1 y2 y3 y4 y5 g4 T3 H3
      obtain ⟨y1, y2, y3, y4, y5⟩ := T4.out.two
      obtain ⟨z1, z2, z3, z4, z5⟩ := H4.out.two
      go_wp2_with fail
      refine (CE.out trivial _ D4.out).mono ?_
      rintro e w5 ⟨v5, f, rfl, h1, h2, hb5⟩
      have D5 := Lib.hid (next0 D4.out hb5)
      cases f
      · have EO := Lib.hid (MO.out trivial trivial (h2 rfl))
        clear MS MN h1 h2
        go_wp2_with fail
        refine bodyPost_ret (v := .tuple #[.slice none 0 0, .bool false]) (by simp [results, Tryz.results27, go_sem]) rfl ?_
        unfold MtR
        exact ⟨_, false, rfl, (fun h => by cases h), (fun _ => ⟨EO.out, rfl⟩), D5.out⟩
      · obtain ⟨s9, he, hI⟩ := h1 rfl
        have EO := Lib.hid (MS.out trivial trivial s9 he)
        have CW := Lib.hid (rvalid_any s9 w5.heap.size w5 v5 (Nat.le_refl _) hI)
        have I9 := Lib.hid (fun w' (k : Below w5.heap.size w5 w') => (hI.deep k (Nat.le_refl _)).wide (ok' := (· < w'.heap.size)) fun b hb => Nat.lt_of_lt_of_le hb k.size)
        clear MS MN MO h1 h2 he hI
        generalize vldS s9 = v9 at *
        go_wp2_with fail
        refine CW.out.mono ?_
        rintro e w6 ⟨rfl, g6⟩
        have D6 := Lib.hid (next0 D5.out g6.1)
        have J9 := Lib.hid (I9.out _ g6.1)
        clear g6
        cases v9
        · go_wp2_with fail
          refine bodyPost_ret (v := .tuple #[.slice none 0 0, .bool false]) (by simp [results, Tryz.results27, go_sem]) rfl ?_
          unfold MtR
          exact ⟨_, false, rfl, (fun h => by cases h), (fun _ => ⟨by rw [EO.out]; rfl, rfl⟩), D6.out⟩
        · go_wp2_with fail
          refine bodyPost_ret (v := .tuple #[v5, .bool true]) (by simp [results, Tryz.results27, go_sem]) rfl ?_
          unfold MtR
          exact ⟨_, true, rfl, (fun _ => ⟨s9, by rw [EO.out]; rfl, J9.out⟩), (fun h => by cases h), D6.out⟩
end UniT
end Go.Proofs.YtaenalpckloikaaGreatDoor
/- Small terms at the bound 100; few and same of gameplayerlaw07. Made by genuniv.py. No conditions. -/
namespace Go.Proofs.YtaenalpckloikaaGreatDoor
open Go Go.RowKit
namespace UniV
open LexM TermM TermI Kit TermN TermS UniK UniM UniA
set_option maxRecDepth 100000 in
set_option maxHeartbeats 1600000 in
theorem parts_any (D : Nat) : ∀ (t : Tm) (B : Nat) (w : World) (sv : Value), D ≤ 100 → B ≤ w.heap.size → SlIn (· < B) w t.args sv →
    Calls Tryz.prog 49 #[.agg #[.string t.nm, sv], .int .i64 100, .int .i64 D] w fun e w' => e = .returned (.int .i64 (partsT 100 D t)) ∧ Gr w w' := by
  induction D with
  | zero =>
    intro t B w sv hD hB h
    obtain ⟨p, c, rfl, hn, hc, hm, hR⟩ := h.row
    clear hR h
    go_enter Tryz.func49, Tryz.ntmps49
    go_wp2_with fail
    go_ret
    exact ⟨rfl, Gr.alloc _ _⟩
  | succ D ih =>
    rintro ⟨n, l⟩ B w sv hD hB h
    dsimp only [Tm.args, Tm.nm] at h ⊢
    obtain ⟨p, c, rfl, hn, hc, hm, hR⟩ := h.row
    obtain ⟨E, hE⟩ : ∃ E : Int, E = ((D + 1 : Nat) : Int) := ⟨_, rfl⟩
    rw [← hE]
    have hE1 : 1 ≤ E := by omega
    have hE2 : E ≤ 100 := by omega
    have hE3 : (D : Int) = E - 1 := by omega
    have IH : Hid (∀ (t : Tm) (w : World) (v : Value), B ≤ w.heap.size → SlIn (· < B) w t.args v → Calls Tryz.prog 49 #[.agg #[.string t.nm, v], .int .i64 100, .int .i64 (E - 1)] w fun e w' => e = .returned (.int .i64 (partsT 100 D t)) ∧ Gr w w') :=
      Lib.hid (fun t w v hB h => by rw [← hE3]; exact ih t B w v (by omega) hB h)
    clear hE3 hE
    have NX := Lib.hid (upN_next 100 D l)
    have ST := Lib.hid (upN_stuck 100 D l)
    have PB : Hid (∀ t, partsT 100 D t ≤ 20000) := Lib.hid (fun t => by
      have h1 := parts_le 100 D t
      have h2 : (D + 1) * (100 + 1) ≤ 101 * 102 := Nat.le_trans (Nat.mul_le_mul_right 101 (show _ ≤ 102 by omega)) (by decide)
      omega)
    have UB : Hid (∀ k, upN 100 D (l.take k) ≤ 20000) := Lib.hid (fun k => by
      have h1 : upN 100 D (l.take k) = partsT 100 (D + 1) (.mk n (l.take k)) := by simp only [partsT]; rfl
      have h2 := parts_le 100 (D + 1) (.mk n (l.take k))
      have h3 : (D + 1 + 1) * (100 + 1) ≤ 101 * 102 := Nat.le_trans (Nat.mul_le_mul_right 101 (show _ ≤ 102 by omega)) (by decide)
      omega)
    have FL : Hid (upN 100 D (l.take l.length) = upN 100 D l) := Lib.hid (by simp)
    have RT : Hid (partsT 100 (D + 1) (.mk n l) = upN 100 D l) := Lib.hid (by simp only [partsT]; rfl)
    have U0 : Hid (upN 100 D (l.take 0) = 1) := Lib.hid (by simp [upN])
    have HB := Lib.hid hB
    have HR := Lib.hid hR
    generalize partsT 100 (D + 1) (.mk n l) = R at *
    generalize hm' : l.length = m at *
    have HM := Lib.hid hm'
    clear ih hR h hm' hn
    unfold maxLen at hm
    go_enter Tryz.func49, Tryz.ntmps49
    go_wp2_with fail
    go_loopw [7, 16] (fun d i wr => ∃ k : Nat, k ≤ m ∧ i = .int .i64 k ∧ d = .int .i64 (upN 100 D (l.take k)) ∧ Hid (Gr (w.alloc (.cells #[.string n, .slice p m c] 27)) wr)) (fun _ i _ => m - (intOf i).toNat)
    case atStart => exact ⟨0, Nat.zero_le _, rfl, by rw [U0.out]; rfl, Lib.hid (Gr.refl _)⟩
    case round =>
      obtain ⟨k, hk, rfl, rfl, hg⟩ := hrel
      have hd := UB.out k
      by_cases hlt : k < m
      · obtain ⟨t, b, o, q, d, ht, rfl, hb, c1, c2, hs, hts⟩ := (HR.out.gr ((Gr.alloc _ _).trans hg.out) HB.out) k (by rw [HM.out]; exact hlt)
        obtain ⟨b0, b1, _, _, hbl⟩ := (hg.out.has (Has.new w _ _)).two
        have n1 := NX.out k t ht
        have n2 := PB.out t
        by_cases hst : 100 < upN 100 D (l.take k)
        · have HF := Lib.hid (ST.out k hst)
          clear n1
          go_wp2_with fail
          go_ret
          exact ⟨ret_int (by rw [RT.out, HF.out]), (Gr.alloc _ _).trans hg.out⟩
        · rw [if_neg hst] at n1
          have HD := Lib.hid n1
          have HS := Lib.hid hs
          clear n1 ht hs
          have hst' : upN 100 D (l.take k) ≤ 100 := by omega
          go_wp2_with fail
          refine (IH.out _ _ _ (Nat.le_trans HB.out ((Gr.alloc _ _).trans hg.out).size) HS.out).mono ?_
          rintro e w' ⟨rfl, g2⟩
          have hg2 := Lib.hid (hg.out.trans g2)
          clear g2
          go_wp2_with fail
          go_roundw
          case rel => exact ⟨k + 1, by omega, by go_num, by rw [HD.out]; first | rfl | (congr 1; omega), hg2⟩
          case measure => simp [intOf]; omega
      · obtain rfl : k = m := by omega
        have HF := Lib.hid FL.out
        go_wp2_with fail
        go_ret
        exact ⟨ret_int (by rw [RT.out, HF.out]), (Gr.alloc _ _).trans hg.out⟩
theorem small_any (t : Tm) (B : Nat) (w : World) (sv : Value) (hB : B ≤ w.heap.size) (h : SlIn (· < B) w t.args sv) :
    Calls Tryz.prog 25 #[.agg #[.string t.nm, sv], .int .i64 100] w fun e w' => e = .returned (.bool (decide (partsT 100 100 t ≤ 100))) ∧ Gr w w' := by
  obtain ⟨p, c, rfl, hn, hc, hm, hR⟩ := h.row
  have HC : Hid (Calls Tryz.prog 49 #[.agg #[.string t.nm, .slice p t.args.length c], .int .i64 100, .int .i64 100] (w.alloc (.cells #[.string t.nm, .slice p t.args.length c] 27)) fun e w' => e = .returned (.int .i64 (partsT 100 100 t)) ∧ Gr (w.alloc (.cells #[.string t.nm, .slice p t.args.length c] 27)) w') :=
    Lib.hid (parts_any 100 t B _ _ (by omega) (Nat.le_trans hB (Gr.alloc _ _).size) (h.gr (Gr.alloc _ _) hB))
  clear hR h hn
  go_enter Tryz.func25, Tryz.ntmps25
  go_wp2_with fail
  refine HC.out.mono ?_
  rintro e w' ⟨rfl, g2⟩
  have hg2 := Lib.hid ((Gr.alloc _ _).trans g2)
  clear g2
  go_wp2_with fail
  go_ret
  exact ⟨ret_bool (by rw [Bool.eq_iff_iff]; simp; omega), hg2.out⟩
theorem gr_dr {a b : World} (h : Gr a b) : Gr a b.drew := h.trans (Gr.drew b)
theorem ret_b {a b : Bool} (h : a = b) : Ending.returned (Value.bool a) = Ending.returned (Value.bool b) := by rw [h]
/-- At most 80 bindings, whose terms are small. -/
def SmS (s : List Bd) : Prop := s.length ≤ 80 ∧ ∀ y ∈ s, partsT 100 100 y.2 ≤ 100
def FewS (s : List Bd) (w : World) (e : Ending) (w' : World) : Prop := ∃ b : Bool, e = .returned (.bool b) ∧ (b = true → SmS s) ∧ Gr w w'
set_option maxRecDepth 100000 in
set_option maxHeartbeats 1600000 in
theorem few_any (s : List Bd) (B : Nat) (w : World) (sv : Value) (hB : B ≤ w.heap.size) (hs : SIn (· < B) w s sv) :
    Calls Tryz.prog 12 #[sv] w (FewS s w) := by
  obtain ⟨p, c, rfl, hc, hm, hR⟩ := SIn.row hs
  have hlm : s.length ≤ maxLen := Nat.le_trans hc hm
  unfold maxLen at hlm
  have AT := Lib.hid (fun (t : Tm) (w' : World) (v : Value) (hw : B ≤ w'.heap.size) (h : SlIn (· < B) w' t.args v) => small_any t B w' v hw h)
  have HR := Lib.hid hR
  have HB := Lib.hid hB
  clear hR hs hB hc hm
  generalize hln : s.length = n at *
  have HN := Lib.hid hln
  clear hln
  unfold FewS
  by_cases h8 : 80 < n
  · have h8' : (80 : Int) < n := by omega
    go_enter Tryz.func12, Tryz.ntmps12
    go_wp2_with fail
    go_ret
    exact ⟨false, rfl, (fun h => by cases h), Gr.refl _⟩
  · have h8' : ¬ ((80 : Int) < n) := by omega
    go_enter Tryz.func12, Tryz.ntmps12
    go_wp2_with fail
    go_loopw [3] (fun i wL => ∃ k : Nat, k ≤ n ∧ i = .int .i64 k ∧ Hid (Gr w wL) ∧ Hid (∀ j y, j < k → s[j]? = some y → partsT 100 100 y.2 ≤ 100)) (fun i _ => n - (intOf i).toNat)
    case atStart => exact ⟨0, by omega, rfl, Lib.hid (Gr.refl _), Lib.hid (fun j y h => by omega)⟩
    case round =>
      obtain ⟨k, hk, rfl, hG, hA⟩ := hrel
      by_cases hlt : k < n
      · obtain ⟨x, b, o, q, d, ht, rfl, hb, c1, c2, c3, hs, hts, htv⟩ := (RowS.gr HR.out hG.out HB.out) k (by rw [HN.out]; exact hlt)
        have AK := Lib.hid (AT.out x.2 wr _ (Nat.le_trans HB.out hG.out.size) hs)
        obtain ⟨A2, hA2⟩ : ∃ A2, decide (partsT 100 100 x.2 ≤ 100) = A2 := ⟨_, rfl⟩
        have NX := Lib.hid (fun (h : A2 = true) => show ∀ j y, j < k + 1 → s[j]? = some y → partsT 100 100 y.2 ≤ 100 from fun j y hj hy => by
          by_cases e : j = k
          · subst e
            rw [ht] at hy
            cases hy
            rw [h, decide_eq_true_eq] at hA2
            exact hA2
          · exact hA.out j y (by omega) hy)
        rw [hA2] at AK
        clear ht hs hts hA2
        go_wp2_with fail
        refine AK.out.mono ?_
        rintro e w5 ⟨rfl, g5⟩
        have G5 := Lib.hid (hG.out.trans g5)
        clear g5 c1 c2 c3
        cases A2
        · go_wp2_with fail
          go_ret
          exact ⟨false, rfl, (fun h => by cases h), G5.out⟩
        · have N1 := Lib.hid (NX.out rfl)
          go_wp2_with fail
          go_roundw
          case rel => exact ⟨k + 1, by omega, by go_num, G5, N1⟩
          case measure => simp [intOf] <;> omega
      · obtain rfl : k = n := by omega
        have HS : Hid (SmS s) := Lib.hid ⟨by rw [HN.out]; omega, fun y hy => by
          obtain ⟨j, hj⟩ := List.mem_iff_getElem?.1 hy
          exact hA.out j y (by rw [← HN.out]; exact (List.getElem?_eq_some_iff.1 hj).1) hj⟩
        go_wp2_with fail
        go_ret
        exact ⟨true, rfl, (fun _ => HS.out), hG.out⟩
theorem drop_at {s r : List Bd} {k : Nat} {x y : Bd} (h : s[k]? = some x) (h' : r[k]? = some y) : s.drop k = r.drop k ↔ (x.1 = y.1 ∧ x.2 = y.2) ∧ s.drop (k + 1) = r.drop (k + 1) := by
  obtain ⟨h1, rfl⟩ := List.getElem?_eq_some_iff.1 h
  obtain ⟨h2, rfl⟩ := List.getElem?_eq_some_iff.1 h'
  rw [List.drop_eq_getElem_cons h1, List.drop_eq_getElem_cons h2, List.cons.injEq, Prod.ext_iff]
set_option maxRecDepth 100000 in
set_option maxHeartbeats 3200000 in
theorem same_any (s r : List Bd) (R : Bool) (hRR : R = true ↔ s = r) (B : Nat) (w : World) (sv rv : Value) (hB : B ≤ w.heap.size) (hs : SIn (· < B) w s sv) (hr : SIn (· < B) w r rv) :
    Calls Tryz.prog 28 #[sv, rv] w fun e w' => e = .returned (.bool R) ∧ Gr w w' := by
  obtain ⟨p, c, rfl, hc, hm, hR⟩ := SIn.row hs
  obtain ⟨p', c', rfl, hc', hm', hR'⟩ := SIn.row hr
  have hlm : s.length ≤ maxLen := Nat.le_trans hc hm
  unfold maxLen at hlm
  have HR := Lib.hid hR
  have HR' := Lib.hid hR'
  have HB := Lib.hid hB
  have HQ := Lib.hid hRR
  have L1 := Lib.hid (fun k x y (h : s[k]? = some x) (h' : r[k]? = some y) => drop_at h h')
  have L3 := Lib.hid (fun k (h : s.length ≤ k) (h' : r.length ≤ k) => show s.drop k = r.drop k from by rw [List.drop_eq_nil_of_le h, List.drop_eq_nil_of_le h'])
  clear hs hr hR hR' hB hc hm hc' hm' hRR
  generalize hln : s.length = m at *
  generalize hln' : r.length = m' at *
  have HM := Lib.hid hln
  have HM' := Lib.hid hln'
  clear hln hln'
  by_cases hmm : m = m'
  · subst hmm
    have L0 : Hid (R = true ↔ s.drop 0 = r.drop 0) := Lib.hid (by simpa using HQ.out)
    go_enter Tryz.func28, Tryz.ntmps28
    go_wp2_with fail
    go_loopw [5] (fun i wr => ∃ k : Nat, k ≤ m ∧ i = .int .i64 k ∧ Hid (R = true ↔ s.drop k = r.drop k) ∧ Hid (Gr w wr)) (fun i _ => m - (intOf i).toNat)
    case atStart => exact ⟨0, Nat.zero_le _, rfl, L0, Lib.hid (Gr.refl _)⟩
    case round =>
      obtain ⟨k, hk, rfl, hA, hg⟩ := hrel
      by_cases hlt : k < m
      · obtain ⟨t, b, o, q, d, ht, rfl, hb, c1, c2, c3, hs, hts, htv⟩ := (RowS.gr HR.out hg.out HB.out) k (by rw [HM.out]; exact hlt)
        obtain ⟨t', b', o', q', d', ht', rfl, hb', c1', c2', c3', hs', hts', htv'⟩ := (RowS.gr HR'.out hg.out HB.out) k (by rw [HM'.out]; exact hlt)
        have N1 := Lib.hid (hA.out.trans (L1.out k t t' ht ht'))
        have hgb : b < wr.heap.size := Nat.lt_of_lt_of_le hb (Nat.le_trans HB.out hg.out.size)
        have hgb' : b' < wr.heap.size := Nat.lt_of_lt_of_le hb' (Nat.le_trans HB.out hg.out.size)
        obtain ⟨z, hz⟩ : ∃ z : Bool, Hid (z = true ↔ t.2 = t'.2) := ⟨decide (cmpT t.2 t'.2 = 0), Lib.hid (by rw [decide_eq_true_iff]; exact cmp_zero t.2 t'.2)⟩
        have KK := Lib.hid (fun w2 (g : Gr wr w2) => TermEq.term_any t.2 z B w2 _ t'.2 _ hz.out (Nat.le_trans HB.out (hg.out.trans g).size) (hs.gr g (Nat.le_trans HB.out hg.out.size)) (hs'.gr g (Nat.le_trans HB.out hg.out.size)))
        obtain ⟨zz, hzz⟩ : ∃ zz, (t.1.toList == t'.1.toList) = zz := ⟨_, rfl⟩
        have HZ : Hid (t.1 = t'.1 ↔ zz = true) := Lib.hid (by rw [← hzz, beq_iff_eq, ByteArray.toList_eq, ByteArray.toList_eq]; exact ⟨fun h => by rw [h], bytes_inj⟩)
        have hzz2 : (t.1.toList != t'.1.toList) = !zz := by rw [bne, hzz]
        clear hs hs' hts hts' ht ht' hA HR HR' HB hb hb' L0 L1 htv htv'
        generalize t.2.nm = tn at *
        generalize t'.2.nm = tn' at *
        generalize t.2.args.length = ta at *
        generalize t'.2.args.length = ta' at *
        generalize t.1 = tb at *
        generalize t'.1 = tb' at *
        have Hb : Hid (∀ w', Gr wr w' → w'.cell? ⟨b, o + k * 3, none⟩ = some (.string tb) ∧ w'.cell? ⟨b, o + k * 3 + 1, none⟩ = some (.string tn) ∧ w'.cell? ⟨b, o + k * 3 + 1 + 1, none⟩ = some (.slice q ta d) ∧ w'.cell? ⟨b', o' + k * 3, none⟩ = some (.string tb') ∧ w'.cell? ⟨b', o' + k * 3 + 1, none⟩ = some (.string tn') ∧ w'.cell? ⟨b', o' + k * 3 + 1 + 1, none⟩ = some (.slice q' ta' d') ∧ Hid (Gr wr w')) := Lib.hid (fun w' g => ⟨(g.cell hgb).trans c1, (g.cell hgb).trans c2, (g.cell hgb).trans c3, (g.cell hgb').trans c1', (g.cell hgb').trans c2', (g.cell hgb').trans c3', Lib.hid g⟩)
        cases zz
        · have HF : Hid (R = false) := Lib.hid (by
            cases hR9 : R with
            | false => rfl
            | true => have := HZ.out.1 (N1.out.1 hR9).1.1; cases this)
          clear N1 hz KK Hb HZ
          go_upto_region 6 with fail
          go_cut [41] (fun s41 wx => s41 = .bool true ∧ Hid (Gr wr wx))
          case first =>
            go_quiet (fail)
            all_goals
              go_wp2_with fail
              go_meet
              exact ⟨rfl, Lib.hid (by first | exact Gr.drewN _ _ | exact Gr.drew _ | exact Gr.refl _)⟩
          case rest =>
            obtain ⟨rfl, G5⟩ := hcut
            go_wp2_with fail
            go_ret
            exact ⟨ret_b HF.out.symm, hg.out.trans G5.out⟩
        · have N2 : Hid (R = true ↔ z = true ∧ s.drop (k + 1) = r.drop (k + 1)) := Lib.hid (N1.out.trans ⟨fun hh => ⟨hz.out.2 hh.1.2, hh.2⟩, fun hh => ⟨⟨HZ.out.2 rfl, hz.out.1 hh.1⟩, hh.2⟩⟩)
          clear N1 hz HZ
          go_upto_region 6 with fail
          go_cut [41] (fun s41 wx => s41 = .bool (!z) ∧ Hid (Gr wr wx))
          case first =>
            clear c1 c2 c3 c1' c2' c3' N2 HQ
            have hs0 := Hb.out _ (gr_dr (Gr.refl wr))
            go_region_held3 (fun w' => w'.cell? ⟨b, o + k * 3, none⟩ = some (.string tb) ∧ w'.cell? ⟨b, o + k * 3 + 1, none⟩ = some (.string tn) ∧ w'.cell? ⟨b, o + k * 3 + 1 + 1, none⟩ = some (.slice q ta d) ∧ w'.cell? ⟨b', o' + k * 3, none⟩ = some (.string tb') ∧ w'.cell? ⟨b', o' + k * 3 + 1, none⟩ = some (.string tn') ∧ w'.cell? ⟨b', o' + k * 3 + 1 + 1, none⟩ = some (.slice q' ta' d') ∧ Hid (Gr wr w'))
              (first | (with_reducible assumption) | (with_reducible exact ⟨‹_›, ‹_›, ‹_›, ‹_›, ‹_›, ‹_›, ‹_›⟩) | (with_reducible refine Hb.out _ ?_; repeat (first | (with_reducible exact Hid.out (by assumption)) | (with_reducible exact Gr.refl _) | (with_reducible refine gr_dr ?_) | (with_reducible refine Gr.more ?_ _))))
              (first | (go_at_call 18; (try go_split_ands); (with_reducible refine (KK.out _ (by repeat (first | (with_reducible exact Hid.out (by assumption)) | (with_reducible exact Gr.refl _) | (with_reducible refine gr_dr ?_) | (with_reducible refine Gr.more ?_ _)))).mono ?_); rintro e w4 ⟨rfl, q0⟩; (have qg : Gr wr w4 := by (refine Gr.trans ?_ q0; repeat (first | (with_reducible exact Hid.out (by assumption)) | (with_reducible exact Gr.refl _) | (with_reducible refine gr_dr ?_) | (with_reducible refine Gr.more ?_ _)))); clear q0; obtain ⟨z1, z2, z3, z4, z5, z6, z7⟩ := Hb.out _ qg))
            all_goals
              go_wp2_with fail
              go_meet
              exact ⟨rfl, Lib.hid qg⟩
          case rest =>
            obtain ⟨rfl, G5⟩ := hcut
            cases z
            · have HF : Hid (R = false) := Lib.hid (by
                cases hR9 : R with
                | false => rfl
                | true => have := (N2.out.1 hR9).1; cases this)
              go_wp2_with fail
              go_ret
              exact ⟨ret_b HF.out.symm, hg.out.trans G5.out⟩
            · have N3 : Hid (R = true ↔ s.drop (k + 1) = r.drop (k + 1)) := Lib.hid (N2.out.trans ⟨fun hh => hh.2, fun hh => ⟨rfl, hh⟩⟩)
              go_wp2_with fail
              go_roundw
              case rel => exact ⟨k + 1, by omega, by go_num, N3, Lib.hid (hg.out.trans G5.out)⟩
              case measure => simp [intOf]; omega
      · obtain rfl : k = m := by omega
        have HA2 : Hid (R = true) := Lib.hid (hA.out.2 (L3.out k (Nat.le_refl _) (Nat.le_refl _)))
        go_wp2_with fail
        go_ret
        exact ⟨ret_b HA2.out.symm, hg.out⟩
  · have HF : Hid (R = false) := Lib.hid (by
      cases hR9 : R with
      | false => rfl
      | true =>
        have hh := HQ.out.1 hR9
        have h1 := HM.out
        have h2 := HM'.out
        rw [hh] at h1
        omega)
    have hmi : ((m : Int) == (m' : Int)) = false := by rw [beq_eq_false_iff_ne]; omega
    have hmj : ((m : Int) != (m' : Int)) = true := by rw [bne, hmi]; rfl
    go_enter Tryz.func28, Tryz.ntmps28
    go_wp2_with fail
    go_ret
    exact ⟨ret_b HF.out.symm, Gr.refl _⟩
end UniV
end Go.Proofs.YtaenalpckloikaaGreatDoor
/- The walk of UnifyMatches, awake's contract as a premise. No other conditions. -/
namespace Go.Proofs.YtaenalpckloikaaGreatDoor
open Go Go.RowKit
namespace UniW
open LexM TermM TermI Kit TermN TermS TermU TermH UniK UniM UniA UniB UniC UniD UniE UniG UniJ UniO UniL UniP UniQ UniT UniV
/-- What awake leaves. -/
def Aw (w : World) : Prop := ∀ w', Below w.heap.size w w' → Calls Tryz.prog 13 #[] w' fun e w'' => e = .returned (.bool true) ∧ Below w'.heap.size w' w''
theorem size_of {t : Tm} (h : partsT 100 100 t ≤ 100) : sizeT t ≤ 100 := by
  have := (parts_size 100 100 t h).1
  omega
set_option maxRecDepth 100000 in
set_option maxHeartbeats 3200000 in
theorem matches_ (p t : Tm) (s : List Bd) (w : World) (sv pv tv : Value) (hs : SIn (· < w.heap.size) w s sv) (hp : SlIn (· < w.heap.size) w p.args pv) (ht : SlIn (· < w.heap.size) w t.args tv) (hpn : p.nm.size ≤ maxLen) (htn : t.nm.size ≤ maxLen) (AW : Aw w) :
    Calls Tryz.prog 5 #[.agg #[.string p.nm, pv], .agg #[.string t.nm, tv], sv] w fun e w' => e = .returned (.bool true) ∧ Below w.heap.size w w' := by
  obtain ⟨p1, c1, rfl⟩ := hp.form
  obtain ⟨p2, c2, rfl⟩ := ht.form
  obtain ⟨W2, hW2⟩ : ∃ W2, W2 = (w.alloc (.cells #[.string p.nm, .slice p1 p.args.length c1] 27)).alloc (.cells #[.string t.nm, .slice p2 t.args.length c2] 27) := ⟨_, rfl⟩
  have G2 : Gr w W2 := by rw [hW2]; exact (Gr.alloc _ _).more _
  have H2 : Hid (Has W2 w.heap.size #[.string p.nm, .slice p1 p.args.length c1]) := Lib.hid (by rw [hW2]; exact (Has.new w _ _).alloc _)
  have T2 : Hid (Has W2 (w.heap.size + 1) #[.string t.nm, .slice p2 t.args.length c2]) := Lib.hid (by rw [hW2]; exact Has.new1 w _ _ _)
  have CF := Lib.hid (fun w' (k : Below w.heap.size w w') => few_any s w.heap.size w' sv k.size (hs.deep k (Nat.le_refl _)))
  have C1 := Lib.hid (fun w' (k : Below w.heap.size w w') => UniV.small_any p w.heap.size w' _ k.size (hp.deep k (Nat.le_refl _)))
  have C2 := Lib.hid (fun w' (k : Below w.heap.size w w') => UniV.small_any t w.heap.size w' _ k.size (ht.deep k (Nat.le_refl _)))
  have CM := Lib.hid (fun (h1 : SmS s) (h2 : partsT 100 100 t ≤ 100) w' (k : Below w.heap.size w w') => match_any p t s (by have := size_of h2; omega) (fun y hy => by have := size_of (h1.2 y hy); omega) w.heap.size w' sv _ _ k.size (hs.deep k (Nat.le_refl _)) (hp.deep k (Nat.le_refl _)) (ht.deep k (Nat.le_refl _)) hpn htn)
  have CR := Lib.hid (fun (h1 : partsT 100 100 p ≤ 100) w' (k : Below w.heap.size w w') => rmatch_any p t s (by have := size_of h1; omega) w.heap.size w' sv _ _ k.size (hs.deep k (Nat.le_refl _)) (hp.deep k (Nat.le_refl _)) (ht.deep k (Nat.le_refl _)) hpn htn)
  have GG := Lib.hid G2
  have AW' := Lib.hid AW
  have HH := Lib.hid (fun w' (k : Below W2.heap.size W2 w') => And.intro (H2.out.step0 k).two (T2.out.step0 k).two)
  clear hs hp ht hpn htn AW H2 T2 G2
  obtain ⟨b1, hb1⟩ : ∃ b, decide (partsT 100 100 p ≤ 100) = b := ⟨_, rfl⟩
  obtain ⟨b2, hb2⟩ : ∃ b, decide (partsT 100 100 t ≤ 100) = b := ⟨_, rfl⟩
  rw [hb1] at C1
  rw [hb2] at C2
  have CR := Lib.hid (fun (h : b1 = true) => CR.out (by rw [h, decide_eq_true_eq] at hb1; exact hb1))
  have CM := Lib.hid (fun (hs : SmS s) (h : b2 = true) => CM.out hs (by rw [h, decide_eq_true_eq] at hb2; exact hb2))
  clear hb1 hb2
  generalize matchP p t s = o9 at *
  generalize p.nm = pn at *
  generalize p.args.length = pa at *
  generalize t.nm = tn at *
  generalize t.args.length = ta at *
  unfold FewS at CF
  unfold MtR at CM CR
  unfold Aw at AW'
  obtain ⟨⟨y1, y2, _⟩, z1, z2, _⟩ := HH.out _ (Below.refl _ _)
  go_enter Tryz.func5, Tryz.ntmps5
  go_upto_region 1 with fail
  rw [← hW2]
  clear hW2
  go_wp2_with fail
  refine (CF.out _ GG.out.1).mono ?_
  rintro e w3 ⟨b, rfl, hsm, g3⟩
  have D3 := Lib.hid (next0 GG.out.1 g3.1)
  have K3 := Lib.hid g3.1
  have SM := Lib.hid hsm
  clear g3 hsm y1 y2 z1 z2
  obtain ⟨⟨y1, y2, _⟩, z1, z2, _⟩ := HH.out _ K3.out
  cases b
  · clear CM CR C1 C2
    go_wp2_with fail
    refine (AW'.out _ D3.out).mono ?_
    rintro e w4 ⟨rfl, k4⟩
    have D4 := Lib.hid (next0 D3.out k4)
    go_wp2_with fail
    go_ret
    exact ⟨rfl, D4.out⟩
  · have CN := Lib.hid (CM.out (SM.out rfl))
    clear CM
    go_wp2_with fail
    refine (C1.out _ D3.out).mono ?_
    rintro e w4 ⟨rfl, g4⟩
    have D4 := Lib.hid (next0 D3.out g4.1)
    have K4 := Lib.hid (next0 K3.out g4.1)
    clear g4 y1 y2 z1 z2
    obtain ⟨⟨y1, y2, _⟩, z1, z2, _⟩ := HH.out _ K4.out
    cases b1
    · clear CN CR C1 C2
      go_wp2_with fail
      refine (AW'.out _ D4.out).mono ?_
      rintro e w5 ⟨rfl, k5⟩
      have D5 := Lib.hid (next0 D4.out k5)
      go_wp2_with fail
      go_ret
      exact ⟨rfl, D5.out⟩
    · have CS := Lib.hid (CR.out (by trivial))
      clear CR
      go_wp2_with fail
      refine (C2.out _ D4.out).mono ?_
      rintro e w5 ⟨rfl, g5⟩
      have D5 := Lib.hid (next0 D4.out g5.1)
      have K5 := Lib.hid (next0 K4.out g5.1)
      clear g5 y1 y2 z1 z2
      obtain ⟨⟨y1, y2, _⟩, z1, z2, _⟩ := HH.out _ K5.out
      cases b2
      · clear CN CS C1 C2
        go_wp2_with fail
        refine (AW'.out _ D5.out).mono ?_
        rintro e w6 ⟨rfl, k6⟩
        have D6 := Lib.hid (next0 D5.out k6)
        go_wp2_with fail
        go_ret
        exact ⟨rfl, D6.out⟩
      · have CO := Lib.hid (CN.out (by trivial))
        go_wp2_with fail
        refine (CO.out _ D5.out).mono ?_
        rintro e w6 ⟨v6, f6, rfl, h1, h2, k6⟩
        have D6 := Lib.hid (next0 D5.out k6)
        have K6 := Lib.hid (next0 K5.out k6)
        have M1 := Lib.hid (And.intro h1 h2)
        clear h1 h2 k6 y1 y2 z1 z2
        obtain ⟨⟨y1, y2, _⟩, z1, z2, _⟩ := HH.out _ K6.out
        go_wp2_with fail
        refine (CS.out _ D6.out).mono ?_
        rintro e w7 ⟨v7, f7, rfl, h1, h2, k7⟩
        have D7 := Lib.hid (next0 D6.out k7)
        have M2 := Lib.hid (And.intro h1 h2)
        have BW := Lib.hid k7
        clear h1 h2 k7 y1 y2 z1 z2
        have key : Hid (f6 = f7 ∧ ∃ s9, SIn (· < w7.heap.size) w7 s9 v6 ∧ SIn (· < w7.heap.size) w7 s9 v7) := Lib.hid (by
          cases f6
          · obtain ⟨ho, hv⟩ := M1.out.2 rfl
            cases f7
            · obtain ⟨ho', hv'⟩ := M2.out.2 rfl
              rw [hv, hv']
              exact ⟨rfl, [], SIn.nil _ _, SIn.nil _ _⟩
            · obtain ⟨s9, h9, _⟩ := M2.out.1 rfl
              rw [ho] at h9
              cases h9
          · obtain ⟨s9, h9, hI⟩ := M1.out.1 rfl
            cases f7
            · obtain ⟨ho', hv'⟩ := M2.out.2 rfl
              rw [ho'] at h9
              cases h9
            · obtain ⟨s8, h8, hI8⟩ := M2.out.1 rfl
              rw [h9] at h8
              cases h8
              exact ⟨rfl, s9, (hI.deep BW.out (Nat.le_refl _)).wide fun b hb => Nat.lt_of_lt_of_le hb BW.out.size, hI8⟩)
        obtain ⟨rfl, s9, hI6, hI7⟩ := key.out
        have SA := Lib.hid (same_any s9 s9 true (by simp) w7.heap.size w7 v6 v7 (Nat.le_refl _) hI6 hI7)
        clear hI6 hI7 key M1 M2 CN CS
        have hff : (f6 == f6) = true := by simp
        go_wp2_with fail
        refine SA.out.mono ?_
        rintro e w8 ⟨rfl, g8⟩
        have D8 := Lib.hid (next0 D7.out g8.1)
        clear g8
        cases f6
        all_goals
          go_wp2_with fail
          refine (AW'.out _ D8.out).mono ?_
          rintro e w9 ⟨rfl, k9⟩
          have D9 := Lib.hid (next0 D8.out k9)
          go_wp2_with fail
          go_ret
          exact ⟨rfl, D9.out⟩
end UniW
end Go.Proofs.YtaenalpckloikaaGreatDoor
/- The walk of UnifyValid, awake's contract as a premise. No other conditions. -/
namespace Go.Proofs.YtaenalpckloikaaGreatDoor
open Go Go.RowKit
namespace UniX
open LexM TermM TermI Kit TermN TermS TermU UniK UniM UniA UniB UniC UniD UniE UniG UniO UniL UniP UniT UniV UniW
set_option maxRecDepth 100000 in
set_option maxHeartbeats 3200000 in
theorem valids (s : List Bd) (v : ByteArray) (w : World) (sv : Value) (hs : SIn (· < w.heap.size) w s sv) (AW : Aw w) :
    Calls Tryz.prog 3 #[sv, .string v] w fun e w' => e = .returned (.bool true) ∧ Below w.heap.size w w' := by
  have CF := Lib.hid (few_any s w.heap.size w sv (Nat.le_refl _) hs)
  have C1 := Lib.hid (fun w' (k : Below w.heap.size w w') => rvalid_any s w.heap.size w' sv k.size (hs.deep k (Nat.le_refl _)))
  have C2 := Lib.hid (fun w' (k : Below w.heap.size w w') => cvalid_any s w.heap.size w' sv k.size (hs.deep k (Nat.le_refl _)))
  have CL := Lib.hid (fun (h1 : SmS s) (h2 : vldS s = true) w' (k : Below w.heap.size w w') => lookup_any s v (vld_srt h2).1 ⟨by have := h1.1; omega, fun y hy => by have := size_of (h1.2 y hy); omega⟩ w.heap.size w' sv k.size (hs.deep k (Nat.le_refl _)))
  have CR := Lib.hid (fun w' (k : Below w.heap.size w w') => rlookup_any s v w.heap.size w' sv k.size (hs.deep k (Nat.le_refl _)))
  have CT := Lib.hid (fun (u : Tm) (q q' : Value) w' (h : SlIn (· < w'.heap.size) w' u.args q) (h' : SlIn (· < w'.heap.size) w' u.args q') => TermEq.term_any u true w'.heap.size w' q u q' (by simp) (Nat.le_refl _) h h')
  have AW' := Lib.hid AW
  clear hs AW
  obtain ⟨vb, hvb⟩ : ∃ b, vldS s = b := ⟨_, rfl⟩
  rw [hvb] at C1 C2 CL
  clear hvb
  generalize lookS s v = o9 at *
  unfold FewS at CF
  unfold LkR at CL
  unfold RLkR at CR
  unfold Aw at AW'
  go_enter Tryz.func3, Tryz.ntmps3
  go_wp2_with fail
  refine CF.out.mono ?_
  rintro e w3 ⟨b, rfl, hsm, g3⟩
  have D3 := Lib.hid g3.1
  have SM := Lib.hid hsm
  clear g3 hsm CF
  cases b
  · clear C1 C2 CL CR
    go_wp2_with fail
    refine (AW'.out _ D3.out).mono ?_
    rintro e w4 ⟨rfl, k4⟩
    have D4 := Lib.hid (next0 D3.out k4)
    go_wp2_with fail
    go_ret
    exact ⟨rfl, D4.out⟩
  · have CN := Lib.hid (CL.out (SM.out rfl))
    clear CL
    go_wp2_with fail
    refine (C1.out _ D3.out).mono ?_
    rintro e w4 ⟨rfl, g4⟩
    have D4 := Lib.hid (next0 D3.out g4.1)
    clear g4
    go_wp2_with fail
    refine (C2.out _ D4.out).mono ?_
    rintro e w5 ⟨rfl, g5⟩
    have D5 := Lib.hid (next0 D4.out g5.1)
    clear g5 C1 C2
    cases vb
    · clear CN CR
      go_wp2_with fail
      refine (AW'.out _ D5.out).mono ?_
      rintro e w6 ⟨rfl, k6⟩
      have D6 := Lib.hid (next0 D5.out k6)
      go_wp2_with fail
      go_ret
      exact ⟨rfl, D6.out⟩
    · have CO := Lib.hid (CN.out (by trivial))
      clear CN
      go_wp2_with fail
      refine (CO.out _ D5.out).mono ?_
      rintro e w6 ⟨u, q, d, f, rfl, hc, hS, hnu, k6⟩
      have D6 := Lib.hid (next0 D5.out k6)
      have S6 := Lib.hid hS
      have HC := Lib.hid hc
      clear hS hc hnu k6 CO
      obtain ⟨W7, hW7⟩ : ∃ W7, W7 = w6.alloc (.cells #[.string u.nm, .slice q u.args.length d] 27) := ⟨_, rfl⟩
      have K7 : Hid (Below w6.heap.size w6 W7) := Lib.hid (by rw [hW7]; exact below_alloc _ _)
      have H7 : Hid (Has W7 w6.heap.size #[.string u.nm, .slice q u.args.length d]) := Lib.hid (by rw [hW7]; exact Has.new _ _ _)
      have D7 := Lib.hid (next0 D6.out K7.out)
      go_upto_region 9 with fail
      rw [← hW7]
      clear hW7
      go_wp2_with fail
      refine (CR.out _ D7.out).mono ?_
      rintro e w8 ⟨u', q', d', f', rfl, hc, hS, hnu, k8⟩
      have D8 := Lib.hid (next0 D7.out k8)
      have S8 := Lib.hid hS
      have HC' := Lib.hid hc
      have H8 := Lib.hid (H7.out.step0 k8)
      have K8 := Lib.hid (next0 K7.out k8)
      clear hS hc hnu k8 CR H7 K7
      obtain ⟨y1, y2, y3, y4, y5⟩ := H8.out.two
      have key : Hid (u' = u ∧ f' = f) := Lib.hid (by
        rcases HC.out with ⟨h1, h2⟩ | ⟨h1, h2, h3⟩ <;> rcases HC'.out with ⟨h1', h2'⟩ | ⟨h1', h2', h3'⟩
        · rw [h1] at h1'
          cases h1'
          exact ⟨rfl, h2'.trans h2.symm⟩
        · rw [h1] at h1'; cases h1'
        · rw [h1] at h1'; cases h1'
        · exact ⟨h2'.trans h2.symm, h3'.trans h3.symm⟩)
      obtain ⟨rfl, rfl⟩ := key.out
      obtain ⟨W9, hW9⟩ : ∃ W9, W9 = w8.alloc (.cells #[.string u'.nm, .slice q' u'.args.length d'] 27) := ⟨_, rfl⟩
      have K9 : Hid (Below w8.heap.size w8 W9) := Lib.hid (by rw [hW9]; exact below_alloc _ _)
      obtain ⟨z1, z2, z3, z4, z5⟩ := (show Has W9 w8.heap.size #[.string u'.nm, .slice q' u'.args.length d'] by rw [hW9]; exact Has.new _ _ _).two
      obtain ⟨x1, x2, x3, x4, x5⟩ := (H8.out.step0 K9.out).two
      have D9 := Lib.hid (next0 D8.out K9.out)
      have TT := Lib.hid (CT.out u' (.slice q u'.args.length d) (.slice q' u'.args.length d') W9
        (((S6.out.frame fun b o hb => (next0 K8.out K9.out).cell (p := ⟨b, o, none⟩) hb.2)).weaken fun b hb => Nat.lt_of_lt_of_le hb.2 (next0 K8.out K9.out).size)
        ((S8.out.deep K9.out D8.out.size).weaken fun b hb => Nat.lt_of_lt_of_le hb D9.out.size))
      clear key HC HC' S6 S8 y1 y2 y3 y4 y5 CT
      generalize u'.nm = un at *
      generalize u'.args.length = ua at *
      go_upto_region 10 with fail
      rw [← hW9]
      clear hW9
      go_wp2_with fail
      refine TT.out.mono ?_
      rintro e wa ⟨rfl, ga⟩
      have Da := Lib.hid (next0 D9.out ga.1)
      clear ga
      have hff : (f' == f') = true := by simp
      cases f'
      all_goals
        go_wp2_with fail
        refine (AW'.out _ Da.out).mono ?_
        rintro e wb ⟨rfl, kb⟩
        have Db := Lib.hid (next0 Da.out kb)
        go_wp2_with fail
        go_ret
        exact ⟨rfl, Db.out⟩
end UniX
end Go.Proofs.YtaenalpckloikaaGreatDoor
