/- Texts laid together: NetSm; NetSl; NetSz. Their own heads stand before each. -/
import Derived.Test.YtgbbpliihglijaaGreatGAB
import Derived.Deep.RegionWith
import Derived.BigQuiet
import Derived.Deep.RegionHeld3
import Derived.Deep.DeepCutAuto
import Derived.Test.YtgbbpliihglijaaGreatGBB
import Derived.Test.YtgbbpliihglijaaGreatNetS
/- Small terms at the bound 20. Made by gensmall.py. No conditions. -/
namespace Go.Proofs.YtgbbpliihglijaaGreat
open Go Go.RowKit
namespace NetSm
open LexM TermM TermI Kit TermN TermS
set_option maxRecDepth 100000 in
set_option maxHeartbeats 1600000 in
theorem parts_any (D : Nat) : ∀ (t : Tm) (B : Nat) (w : World) (sv : Value), D ≤ 20 → B ≤ w.heap.size → SlIn (· < B) w t.args sv →
    Calls Tryz.prog 32 #[.agg #[.string t.nm, sv], .int .i64 20, .int .i64 D] w fun e w' => e = .returned (.int .i64 (partsT 20 D t)) ∧ Gr w w' := by
  induction D with
  | zero =>
    intro t B w sv hD hB h
    obtain ⟨p, c, rfl, hn, hc, hm, hR⟩ := h.row
    clear hR h
    go_enter Tryz.func32, Tryz.ntmps32
    go_wp2_with fail
    go_ret
    exact ⟨rfl, Gr.alloc _ _⟩
  | succ D ih =>
    rintro ⟨n, l⟩ B w sv hD hB h
    dsimp only [Tm.args, Tm.nm] at h ⊢
    obtain ⟨p, c, rfl, hn, hc, hm, hR⟩ := h.row
    obtain ⟨E, hE⟩ : ∃ E : Int, E = ((D + 1 : Nat) : Int) := ⟨_, rfl⟩
    rw [← hE]
    have hE1 : 1 ≤ E := by omega
    have hE2 : E ≤ 20 := by omega
    have hE3 : (D : Int) = E - 1 := by omega
    have IH : Hid (∀ (t : Tm) (w : World) (v : Value), B ≤ w.heap.size → SlIn (· < B) w t.args v → Calls Tryz.prog 32 #[.agg #[.string t.nm, v], .int .i64 20, .int .i64 (E - 1)] w fun e w' => e = .returned (.int .i64 (partsT 20 D t)) ∧ Gr w w') :=
      Lib.hid (fun t w v hB h => by rw [← hE3]; exact ih t B w v (by omega) hB h)
    clear hE3 hE
    have NX := Lib.hid (upN_next 20 D l)
    have ST := Lib.hid (upN_stuck 20 D l)
    have PB : Hid (∀ t, partsT 20 D t ≤ 20000) := Lib.hid (fun t => by
      have h1 := parts_le 20 D t
      have h2 : (D + 1) * (20 + 1) ≤ 21 * 22 := Nat.le_trans (Nat.mul_le_mul_right 21 (show _ ≤ 22 by omega)) (by decide)
      omega)
    have UB : Hid (∀ k, upN 20 D (l.take k) ≤ 20000) := Lib.hid (fun k => by
      have h1 : upN 20 D (l.take k) = partsT 20 (D + 1) (.mk n (l.take k)) := by simp only [partsT]; rfl
      have h2 := parts_le 20 (D + 1) (.mk n (l.take k))
      have h3 : (D + 1 + 1) * (20 + 1) ≤ 21 * 22 := Nat.le_trans (Nat.mul_le_mul_right 21 (show _ ≤ 22 by omega)) (by decide)
      omega)
    have FL : Hid (upN 20 D (l.take l.length) = upN 20 D l) := Lib.hid (by simp)
    have RT : Hid (partsT 20 (D + 1) (.mk n l) = upN 20 D l) := Lib.hid (by simp only [partsT]; rfl)
    have U0 : Hid (upN 20 D (l.take 0) = 1) := Lib.hid (by simp [upN])
    have HB := Lib.hid hB
    have HR := Lib.hid hR
    generalize partsT 20 (D + 1) (.mk n l) = R at *
    generalize hm' : l.length = m at *
    have HM := Lib.hid hm'
    clear ih hR h hm' hn
    unfold maxLen at hm
    go_enter Tryz.func32, Tryz.ntmps32
    go_wp2_with fail
    go_loopw [7, 16] (fun d i wr => ∃ k : Nat, k ≤ m ∧ i = .int .i64 k ∧ d = .int .i64 (upN 20 D (l.take k)) ∧ Hid (Gr (w.alloc (.cells #[.string n, .slice p m c] 58)) wr)) (fun _ i _ => m - (intOf i).toNat)
    case atStart => exact ⟨0, Nat.zero_le _, rfl, by rw [U0.out]; rfl, Lib.hid (Gr.refl _)⟩
    case round =>
      obtain ⟨k, hk, rfl, rfl, hg⟩ := hrel
      have hd := UB.out k
      by_cases hlt : k < m
      · obtain ⟨t, b, o, q, d, ht, rfl, hb, c1, c2, hs, hts⟩ := (HR.out.gr ((Gr.alloc _ _).trans hg.out) HB.out) k (by rw [HM.out]; exact hlt)
        obtain ⟨b0, b1, _, _, hbl⟩ := (hg.out.has (Has.new w _ _)).two
        have n1 := NX.out k t ht
        have n2 := PB.out t
        by_cases hst : 20 < upN 20 D (l.take k)
        · have HF := Lib.hid (ST.out k hst)
          clear n1
          go_wp2_with fail
          go_ret
          exact ⟨ret_int (by rw [RT.out, HF.out]), (Gr.alloc _ _).trans hg.out⟩
        · rw [if_neg hst] at n1
          have HD := Lib.hid n1
          have HS := Lib.hid hs
          clear n1 ht hs
          have hst' : upN 20 D (l.take k) ≤ 20 := by omega
          go_wp2_with fail
          refine (IH.out _ _ _ (Nat.le_trans HB.out ((Gr.alloc _ _).trans hg.out).size) HS.out).mono ?_
          rintro e w' ⟨rfl, g2⟩
          have hg2 := Lib.hid (hg.out.trans g2)
          clear g2
          go_wp2_with fail
          go_roundw
          case rel => exact ⟨k + 1, by omega, by go_num, by rw [HD.out]; first | rfl | (congr 1; omega), hg2⟩
          case measure => simp [intOf]; omega
      · obtain rfl : k = m := by omega
        have HF := Lib.hid FL.out
        go_wp2_with fail
        go_ret
        exact ⟨ret_int (by rw [RT.out, HF.out]), (Gr.alloc _ _).trans hg.out⟩
theorem small_any (t : Tm) (B : Nat) (w : World) (sv : Value) (hB : B ≤ w.heap.size) (h : SlIn (· < B) w t.args sv) :
    Calls Tryz.prog 22 #[.agg #[.string t.nm, sv], .int .i64 20] w fun e w' => e = .returned (.bool (decide (partsT 20 20 t ≤ 20))) ∧ Gr w w' := by
  obtain ⟨p, c, rfl, hn, hc, hm, hR⟩ := h.row
  have HC : Hid (Calls Tryz.prog 32 #[.agg #[.string t.nm, .slice p t.args.length c], .int .i64 20, .int .i64 20] (w.alloc (.cells #[.string t.nm, .slice p t.args.length c] 58)) fun e w' => e = .returned (.int .i64 (partsT 20 20 t)) ∧ Gr (w.alloc (.cells #[.string t.nm, .slice p t.args.length c] 58)) w') :=
    Lib.hid (parts_any 20 t B _ _ (by omega) (Nat.le_trans hB (Gr.alloc _ _).size) (h.gr (Gr.alloc _ _) hB))
  clear hR h hn
  go_enter Tryz.func22, Tryz.ntmps22
  go_wp2_with fail
  refine HC.out.mono ?_
  rintro e w' ⟨rfl, g2⟩
  have hg2 := Lib.hid ((Gr.alloc _ _).trans g2)
  clear g2
  go_wp2_with fail
  go_ret
  exact ⟨ret_bool (by rw [Bool.eq_iff_iff]; simp; omega), hg2.out⟩

theorem smalls_any (l : List Tm) (B : Nat) (w : World) (v : Value) (hB : B ≤ w.heap.size) (h : SlIn (· < B) w l v) :
    Calls Tryz.prog 21 #[v, .int .i64 20] w fun e w' => e = .returned (.bool (decide (l.length ≤ 20) && l.all fun t => decide (partsT 20 20 t ≤ 20))) ∧ Gr w w' := by
  obtain ⟨p, c, rfl, hn, hc, hm, hR⟩ := h.row
  unfold maxLen at hm
  by_cases h20 : 20 < l.length
  · have HF : Hid ((decide (l.length ≤ 20) && l.all fun t => decide (partsT 20 20 t ≤ 20)) = false) := by rw [decide_eq_false (by omega)]; exact rfl
    generalize hm' : l.length = m at *
    clear h hR hm'
    go_enter Tryz.func21, Tryz.ntmps21
    go_wp2_with fail
    go_ret
    exact ⟨ret_bool HF.out.symm, Gr.refl _⟩
  · have HF : Hid ((decide (l.length ≤ 20) && l.all fun t => decide (partsT 20 20 t ≤ 20)) = l.all fun t => decide (partsT 20 20 t ≤ 20)) := by rw [decide_eq_true (by omega)]; exact rfl
    have NX : Hid (∀ k t, l[k]? = some t → ((l.take (k + 1)).all fun t => decide (partsT 20 20 t ≤ 20)) = (((l.take k).all fun t => decide (partsT 20 20 t ≤ 20)) && decide (partsT 20 20 t ≤ 20))) := Lib.hid (fun k t h => by
      rw [take_get l k t h, List.all_append]; simp)
    have NO : Hid (∀ k t, l[k]? = some t → decide (partsT 20 20 t ≤ 20) = false → (l.all fun t => decide (partsT 20 20 t ≤ 20)) = false) := Lib.hid (fun k t h1 h2 => by
      rw [List.all_eq_false]; exact ⟨t, List.mem_of_getElem? h1, by simpa using h2⟩)
    have FL : Hid (l.take l.length = l) := Lib.hid (by simp)
    have HB := Lib.hid hB
    have HR := Lib.hid hR
    generalize (decide (l.length ≤ 20) && l.all fun t => decide (partsT 20 20 t ≤ 20)) = R at *
    have SM := Lib.hid (fun t w sv hB h => small_any t B w sv hB h)
    have h20' : l.length ≤ 20 := by omega
    generalize hm' : l.length = m at *
    have HM := Lib.hid hm'
    clear hR h hm' hn h20
    go_enter Tryz.func21, Tryz.ntmps21
    go_wp2_with fail
    go_loopw [12] (fun i wr => ∃ k : Nat, k ≤ m ∧ i = .int .i64 k ∧ Hid (((l.take k).all fun t => decide (partsT 20 20 t ≤ 20)) = true) ∧ Hid (Gr w wr)) (fun i _ => m - (intOf i).toNat)
    case atStart => exact ⟨0, Nat.zero_le _, rfl, Lib.hid rfl, Lib.hid (Gr.refl _)⟩
    case round =>
      obtain ⟨k, hk, rfl, hA, hg⟩ := hrel
      by_cases hlt : k < m
      · obtain ⟨t, b, o, q, d, ht, rfl, hb, c1, c2, hs, hts⟩ := (HR.out.gr hg.out HB.out) k (by rw [HM.out]; exact hlt)
        have HS := Lib.hid hs
        have N1 := Lib.hid (NX.out k t ht)
        have N2 := Lib.hid (NO.out k t ht)
        clear ht hs
        go_wp2_with fail
        refine (SM.out t _ _ (Nat.le_trans HB.out hg.out.size) HS.out).mono ?_
        rintro e w' ⟨rfl, g2⟩
        have hg2 := Lib.hid (hg.out.trans g2)
        clear g2
        cases hdc : decide (partsT 20 20 t ≤ 20)
        · have HF2 := Lib.hid (N2.out hdc)
          go_wp2_with fail
          go_ret
          exact ⟨ret_bool (by rw [HF.out, HF2.out]), hg2.out⟩
        · have HA2 : Hid (((l.take (k + 1)).all fun t => decide (partsT 20 20 t ≤ 20)) = true) := by rw [N1.out, hA.out, hdc]; exact rfl
          go_wp2_with fail
          go_roundw
          case rel => exact ⟨k + 1, by omega, by go_num, HA2, hg2⟩
          case measure => simp [intOf]; omega
      · obtain rfl : k = m := by omega
        have HF2 : Hid (R = true) := by rw [HF.out, ← hA.out, FL.out]; exact rfl
        go_wp2_with fail
        go_ret
        exact ⟨ret_bool HF2.out.symm, hg.out⟩
end NetSm
end Go.Proofs.YtgbbpliihglijaaGreat
/- Small of the law: moderate networks. No conditions. Made by gnSl.py. -/
namespace Go.Proofs.YtgbbpliihglijaaGreat
open Go Go.RowKit
namespace NetSl
open Kit LexM TermM TermI TermN TermS NetM NetN NetK NetA NetB NetSm
/-- A network of moderate size. -/
structure SmN (n : Nt) : Prop where
  gates : n.gates.length ≤ 80
  roles : n.roles.length ≤ 10
  bases : n.bases.length ≤ 20
  inputs : n.inputs.length ≤ 20
  initial : n.initial.length ≤ 25
  next : n.next.length ≤ 25
  legal : n.legal.length ≤ 25
  goals : n.goals.length ≤ 30
  sees : n.sees.length ≤ 30
  ins : ∀ g ∈ n.gates, g.2.2.length ≤ 20
  szr : ∀ t ∈ n.roles, partsT 20 20 t ≤ 20
  szb : ∀ t ∈ n.bases, partsT 20 20 t ≤ 20
  szi : ∀ t ∈ n.inputs, partsT 20 20 t.2 ≤ 20
  szg : ∀ t ∈ n.goals, partsT 20 20 t.2.2.1 ≤ 20
  szs : ∀ t ∈ n.sees, partsT 20 20 t.2.2.1 ≤ 20
def SmE (n : Nt) (w : World) (e : Ending) (w' : World) : Prop := ∃ b, e = .returned (.bool b) ∧ (b = true → SmN n) ∧ Below w.heap.size w w'
theorem SmE.no {n : Nt} {w w' : World} (h : Below w.heap.size w w') : SmE n w (.returned (.bool false)) w' := ⟨false, rfl, fun e => (by cases e), h⟩
theorem SmE.yes {n : Nt} {w w' : World} (hs : SmN n) (h : Below w.heap.size w w') : SmE n w (.returned (.bool true)) w' := ⟨true, rfl, fun _ => hs, h⟩
theorem sm_any (t : Tm) (B : Nat) (w : World) (sv : Value) (hB : B ≤ w.heap.size) (h : SlIn (· < B) w t.args sv) :
    Calls Tryz.prog 22 #[.agg #[.string t.nm, sv], .int .i64 20] w fun e w' => e = .returned (.bool (decide (partsT 20 20 t ≤ 20))) ∧ Below w.heap.size w w' :=
  (NetSm.small_any t B w sv hB h).mono fun _ _ h => ⟨h.1, h.2.1⟩
theorem sms_any (l : List Tm) (B : Nat) (w : World) (v : Value) (hB : B ≤ w.heap.size) (h : SlIn (· < B) w l v) :
    Calls Tryz.prog 21 #[v, .int .i64 20] w fun e w' => ∃ b, e = .returned (.bool b) ∧ (b = true → l.length ≤ 20 ∧ ∀ t ∈ l, partsT 20 20 t ≤ 20) ∧ Below w.heap.size w w' :=
  (NetSm.smalls_any l B w v hB h).mono fun _ _ h => ⟨_, h.1, fun e => by
    rw [Bool.and_eq_true, decide_eq_true_eq, List.all_eq_true] at e
    exact ⟨e.1, fun t ht => of_decide_eq_true (e.2 t ht)⟩, h.2.1⟩
set_option maxRecDepth 100000 in
set_option maxHeartbeats 6400000 in
theorem law_small (n : Nt) (h : Nh) (B : Nat) (w : World) (hB : B ≤ w.heap.size) (k : NetIn (· < B) w n h) :
    Calls Tryz.prog 4 #[.agg #[.slice h.gp n.gates.length h.gc, .slice h.rp n.roles.length h.rc, .slice h.bp n.bases.length h.bc, .slice h.ip n.inputs.length h.ic, .slice h.ap n.initial.length h.ac, .slice h.np n.next.length h.nc, .slice h.lp n.legal.length h.lc, .slice h.op n.goals.length h.oc, .slice h.sp n.sees.length h.sc, .int .i64 n.last, .bool n.hid]] w (SmE n w) := by
  obtain ⟨W1, hW1⟩ : ∃ z, z = w.alloc (.cells #[.slice h.gp n.gates.length h.gc, .slice h.rp n.roles.length h.rc, .slice h.bp n.bases.length h.bc, .slice h.ip n.inputs.length h.ic, .slice h.ap n.initial.length h.ac, .slice h.np n.next.length h.nc, .slice h.lp n.legal.length h.lc, .slice h.op n.goals.length h.oc, .slice h.sp n.sees.length h.sc, .int .i64 n.last, .bool n.hid] 28) := ⟨_, rfl⟩
  have K1 : Hid (Below w.heap.size w W1) := Lib.hid (by rw [hW1]; exact below_alloc _ _)
  have H1 : Hid (Has W1 w.heap.size (netC n h)) := Lib.hid (by rw [hW1]; exact Has.new _ _ _)
  have hzz := K1.out.size
  have KW := Lib.hid (fun w' (q : Below W1.heap.size W1 w') => show Below w.heap.size w w' from K1.out.trans (q.mono hzz))
  have NK := Lib.hid (fun w' (q : Below W1.heap.size W1 w') => k.deep (KW.out w' q) hB)
  have HQ := Lib.hid (fun w' (q : Below W1.heap.size W1 w') => hasN (H1.out.step0 q))
  have C1 := Lib.hid (fun w' (q : Below W1.heap.size W1 w') => sms_any n.roles B w' _ (Nat.le_trans hB (KW.out w' q).size) (NK.out w' q).roles)
  have C2 := Lib.hid (fun w' (q : Below W1.heap.size W1 w') => sms_any n.bases B w' _ (Nat.le_trans hB (KW.out w' q).size) (NK.out w' q).bases)
  clear k
  obtain ⟨q1, q2, q3, q4, q5, q6, q7, q8, q9, q10, q11⟩ := HQ.out W1 (Below.refl _ _)
  generalize hmg : n.gates.length = mg at *
  have HG := Lib.hid hmg
  generalize hmr : n.roles.length = mr at *
  have HR := Lib.hid hmr
  generalize hmb : n.bases.length = mb at *
  have HBs := Lib.hid hmb
  generalize hmi : n.inputs.length = mi at *
  have HI := Lib.hid hmi
  generalize hma : n.initial.length = ma at *
  have HA := Lib.hid hma
  generalize hmn : n.next.length = mn at *
  have HN := Lib.hid hmn
  generalize hml : n.legal.length = ml at *
  have HL := Lib.hid hml
  generalize hmo : n.goals.length = mo at *
  have HO := Lib.hid hmo
  generalize hms : n.sees.length = ms at *
  have HS := Lib.hid hms
  clear hmg hmr hmb hmi hma hmn hml hmo hms
  go_enter Tryz.func4, Tryz.ntmps4
  go_upto_region 1 with fail
  rw [← hW1]
  clear hW1
  by_cases a1 : 80 < mg
  · have a1' : (80 : Int) < mg := by omega
    go_wp2_with fail
    go_ret
    exact SmE.no K1.out
  have a1' : ¬ (80 : Int) < mg := by omega
  by_cases a2 : 10 < mr
  · have a2' : (10 : Int) < mr := by omega
    go_wp2_with fail
    go_ret
    exact SmE.no K1.out
  have a2' : ¬ (10 : Int) < mr := by omega
  have B1 := Lib.hid (C1.out W1 (Below.refl _ _))
  clear C1
  go_wp2_with fail
  refine B1.out.mono ?_
  rintro e w4 ⟨b1, rfl, e1, g4⟩
  have D4 := Lib.hid (next0 (Below.refl W1.heap.size W1) g4)
  have DD4 := Lib.hid (KW.out _ D4.out)
  have E1 := Lib.hid e1
  clear g4 B1 e1 q1 q2 q3 q4 q5 q6 q7 q8 q9 q10 q11
  obtain ⟨q1, q2, q3, q4, q5, q6, q7, q8, q9, q10, q11⟩ := HQ.out w4 D4.out
  cases b1
  · go_wp2_with fail
    go_ret
    exact SmE.no DD4.out
  have EA := Lib.hid (E1.out rfl).2
  clear E1
  have B2 := Lib.hid (C2.out w4 D4.out)
  clear C2
  go_wp2_with fail
  refine B2.out.mono ?_
  rintro e w5 ⟨b2, rfl, e2, g5⟩
  have D5 := Lib.hid (next0 D4.out g5)
  have DD5 := Lib.hid (KW.out _ D5.out)
  have E2 := Lib.hid e2
  clear g5 B2 e2 q1 q2 q3 q4 q5 q6 q7 q8 q9 q10 q11
  obtain ⟨q1, q2, q3, q4, q5, q6, q7, q8, q9, q10, q11⟩ := HQ.out w5 D5.out
  cases b2
  · go_wp2_with fail
    go_ret
    exact SmE.no DD5.out
  have hmb20 := (E2.out rfl).1
  have EB := Lib.hid (E2.out rfl).2
  clear E2
  by_cases a3 : 20 < mi
  · have a3' : (20 : Int) < mi := by omega
    go_wp2_with fail
    go_ret
    exact SmE.no DD5.out
  have a3' : ¬ (20 : Int) < mi := by omega
  by_cases a4 : 25 < ma
  · have a4' : (25 : Int) < ma := by omega
    go_wp2_with fail
    go_ret
    exact SmE.no DD5.out
  have a4' : ¬ (25 : Int) < ma := by omega
  by_cases a5 : 25 < mn
  · have a5' : (25 : Int) < mn := by omega
    go_wp2_with fail
    go_ret
    exact SmE.no DD5.out
  have a5' : ¬ (25 : Int) < mn := by omega
  by_cases a6 : 25 < ml
  · have a6' : (25 : Int) < ml := by omega
    go_wp2_with fail
    go_ret
    exact SmE.no DD5.out
  have a6' : ¬ (25 : Int) < ml := by omega
  by_cases a7 : 30 < mo
  · have a7' : (30 : Int) < mo := by omega
    go_wp2_with fail
    go_ret
    exact SmE.no DD5.out
  have a7' : ¬ (30 : Int) < mo := by omega
  by_cases a8 : 30 < ms
  · have a8' : (30 : Int) < ms := by omega
    go_wp2_with fail
    go_ret
    exact SmE.no DD5.out
  have a8' : ¬ (30 : Int) < ms := by omega
  have DST := Lib.hid D5.out
  go_wp2_with fail
  clear q1 q2 q3 q4 q5 q6 q7 q8 q9 q10 q11
  go_loopw [3] (fun i wr => ∃ k : Nat, k ≤ mg ∧ i = .int .i64 k ∧ Hid (∀ j y, j < k → n.gates[j]? = some y → y.2.2.length ≤ 20) ∧ Hid (Below W1.heap.size W1 wr)) (fun i _ => mg - (intOf i).toNat)
  case atStart => exact ⟨0, Nat.zero_le _, rfl, Lib.hid (fun j y hj => by omega), DST⟩
  case round =>
    clear DST
    obtain ⟨k, hk, rfl, hT, hD⟩ := hrel
    obtain ⟨q1, q2, q3, q4, q5, q6, q7, q8, q9, q10, q11⟩ := HQ.out wr hD.out
    by_cases hlt : k < mg
    · obtain ⟨x, hx⟩ : ∃ x, n.gates[k]? = some x := ⟨n.gates[k]'(by rw [HG.out]; exact hlt), by simp⟩
      have j0 : (0 : Int) ≤ (k : Int) := by omega
      have j1 : (k : Int) < mg := by omega
      obtain ⟨vx, b, o, ep, hbB, ix, hcx⟩ := (NK.out wr hD.out).gates.at hx
      obtain ⟨p, c, ex⟩ : ∃ p c, vx = .slice p x.2.2.length c := ix.1.form
      subst ex
      have c2 : wr.cell? ⟨b, o + k * 3 + 2, none⟩ = some (.slice p x.2.2.length c) := hcx 2 _ rfl
      have HX := Lib.hid hx
      clear hx ix hcx
      have D := Lib.hid (KW.out _ hD.out)
      by_cases h20 : 20 < x.2.2.length
      · have h20' : (20 : Int) < x.2.2.length := by omega
        generalize x.2.2.length = xl at *
        go_wp2_with fail
        go_ret
        exact SmE.no D.out
      · have T2 : Hid (∀ j y, j < k + 1 → n.gates[j]? = some y → y.2.2.length ≤ 20) := Lib.hid (fun j y hj hy => by
          by_cases e : j = k
          · subst e
            rw [HX.out] at hy
            injection hy with hy
            rw [← hy]
            omega
          · exact hT.out j y (by omega) hy)
        have h20' : ¬ (20 : Int) < x.2.2.length := by omega
        clear HX
        generalize x.2.2.length = xl at *
        go_wp2_with fail
        go_roundw
        case rel => exact ⟨k + 1, by omega, by go_num, T2, hD⟩
        case measure => simp [intOf]; omega
    · have hkm : k = mg := by omega
      have F1 : Hid (∀ y ∈ n.gates, y.2.2.length ≤ 20) := Lib.hid (fun y hy => by
        obtain ⟨j, hj⟩ := List.mem_iff_getElem?.1 hy
        exact hT.out j y (by have := (List.getElem?_eq_some_iff.1 hj).1; have := HG.out; omega) hj)
      have hlt' : ¬ (k : Int) < mg := by omega
      have DST := Lib.hid hD.out
      generalize hwx : wr = wx at *
      clear hT hD hkm hwx hlt
      go_wp2_with fail
      clear q1 q2 q3 q4 q5 q6 q7 q8 q9 q10 q11
      go_loopw [4] (fun i wr => ∃ k : Nat, k ≤ mi ∧ i = .int .i64 k ∧ Hid (∀ j y, j < k → n.inputs[j]? = some y → partsT 20 20 y.2 ≤ 20) ∧ Hid (Below W1.heap.size W1 wr)) (fun i _ => mi - (intOf i).toNat)
      case atStart => exact ⟨0, Nat.zero_le _, rfl, Lib.hid (fun j y hj => by omega), DST⟩
      case round =>
        clear DST
        obtain ⟨k, hk, rfl, hT, hD⟩ := hrel
        obtain ⟨q1, q2, q3, q4, q5, q6, q7, q8, q9, q10, q11⟩ := HQ.out wr hD.out
        by_cases hlt : k < mi
        · obtain ⟨x, hx⟩ : ∃ x, n.inputs[k]? = some x := ⟨n.inputs[k]'(by rw [HI.out]; exact hlt), by simp⟩
          have j0 : (0 : Int) ≤ (k : Int) := by omega
          have j1 : (k : Int) < mi := by omega
          obtain ⟨vx, b, o, ep, hbB, ix, hcx⟩ := (NK.out wr hD.out).inputs.at hx
          obtain ⟨q, d, ex⟩ : ∃ q d, vx = .slice q x.2.args.length d := ix.1.form
          subst ex
          have c1 : wr.cell? ⟨b, o + k * 3 + 1, none⟩ = some (.string x.2.nm) := hcx 1 _ rfl
          have c2 : wr.cell? ⟨b, o + k * 3 + 1 + 1, none⟩ = some (.slice q x.2.args.length d) := hcx 2 _ rfl
          have CS := Lib.hid (sm_any x.2 B wr _ (Nat.le_trans hB (KW.out wr hD.out).size) ix.1)
          have HX := Lib.hid hx
          clear hx ix hcx
          obtain ⟨s, hs⟩ : ∃ s, decide (partsT 20 20 x.2 ≤ 20) = s := ⟨_, rfl⟩
          rw [hs] at CS
          have HS9 := Lib.hid hs
          clear hs
          have T2 : Hid (s = true → ∀ j y, j < k + 1 → n.inputs[j]? = some y → partsT 20 20 y.2 ≤ 20) := Lib.hid (fun es j y hj hy => by
            by_cases e : j = k
            · subst e
              rw [HX.out] at hy
              injection hy with hy
              rw [← hy]
              exact of_decide_eq_true (HS9.out.trans es)
            · exact hT.out j y (by omega) hy)
          clear HX HS9
          generalize x.2.nm = xn at *
          generalize x.2.args.length = xa at *
          go_wp2_with fail
          refine CS.out.mono ?_
          rintro e w4 ⟨rfl, g4⟩
          have D4 := Lib.hid (next0 hD.out g4)
          have D := Lib.hid (KW.out _ D4.out)
          clear g4 CS
          cases s
          · go_wp2_with fail
            go_ret
            exact SmE.no D.out
          · have T3 := Lib.hid (T2.out rfl)
            clear T2
            go_wp2_with fail
            go_roundw
            case rel => first | exact ⟨k + 1, by omega, by go_num, T3, D4⟩ | ((try rw [ep]); (repeat (apply Exists.intro)); refine ⟨?_, rfl⟩; exact ⟨k + 1, by omega, by go_num, T3, D4⟩)
            case measure => simp [intOf]; omega
        · have hkm : k = mi := by omega
          have F2 : Hid (∀ y ∈ n.inputs, partsT 20 20 y.2 ≤ 20) := Lib.hid (fun y hy => by
            obtain ⟨j, hj⟩ := List.mem_iff_getElem?.1 hy
            exact hT.out j y (by have := (List.getElem?_eq_some_iff.1 hj).1; have := HI.out; omega) hj)
          have hlt' : ¬ (k : Int) < mi := by omega
          have DST := Lib.hid hD.out
          generalize hwx : wr = wx at *
          clear hT hD hkm hwx hlt
          go_wp2_with fail
          clear q1 q2 q3 q4 q5 q6 q7 q8 q9 q10 q11
          go_loopw [5] (fun i wr => ∃ k : Nat, k ≤ mo ∧ i = .int .i64 k ∧ Hid (∀ j y, j < k → n.goals[j]? = some y → partsT 20 20 y.2.2.1 ≤ 20) ∧ Hid (Below W1.heap.size W1 wr)) (fun i _ => mo - (intOf i).toNat)
          case atStart => exact ⟨0, Nat.zero_le _, rfl, Lib.hid (fun j y hj => by omega), DST⟩
          case round =>
            clear DST
            obtain ⟨k, hk, rfl, hT, hD⟩ := hrel
            obtain ⟨q1, q2, q3, q4, q5, q6, q7, q8, q9, q10, q11⟩ := HQ.out wr hD.out
            by_cases hlt : k < mo
            · obtain ⟨x, hx⟩ : ∃ x, n.goals[k]? = some x := ⟨n.goals[k]'(by rw [HO.out]; exact hlt), by simp⟩
              have j0 : (0 : Int) ≤ (k : Int) := by omega
              have j1 : (k : Int) < mo := by omega
              obtain ⟨vx, b, o, ep, hbB, ix, hcx⟩ := (NK.out wr hD.out).goals.at hx
              obtain ⟨q, d, ex⟩ : ∃ q d, vx = .slice q x.2.2.1.args.length d := ix.1.form
              subst ex
              have c1 : wr.cell? ⟨b, o + k * 5 + 2, none⟩ = some (.string x.2.2.1.nm) := hcx 2 _ rfl
              have c2 : wr.cell? ⟨b, o + k * 5 + 2 + 1, none⟩ = some (.slice q x.2.2.1.args.length d) := hcx 3 _ rfl
              have CS := Lib.hid (sm_any x.2.2.1 B wr _ (Nat.le_trans hB (KW.out wr hD.out).size) ix.1)
              have HX := Lib.hid hx
              clear hx ix hcx
              obtain ⟨s, hs⟩ : ∃ s, decide (partsT 20 20 x.2.2.1 ≤ 20) = s := ⟨_, rfl⟩
              rw [hs] at CS
              have HS9 := Lib.hid hs
              clear hs
              have T2 : Hid (s = true → ∀ j y, j < k + 1 → n.goals[j]? = some y → partsT 20 20 y.2.2.1 ≤ 20) := Lib.hid (fun es j y hj hy => by
                by_cases e : j = k
                · subst e
                  rw [HX.out] at hy
                  injection hy with hy
                  rw [← hy]
                  exact of_decide_eq_true (HS9.out.trans es)
                · exact hT.out j y (by omega) hy)
              clear HX HS9
              generalize x.2.2.1.nm = xn at *
              generalize x.2.2.1.args.length = xa at *
              go_wp2_with fail
              refine CS.out.mono ?_
              rintro e w4 ⟨rfl, g4⟩
              have D4 := Lib.hid (next0 hD.out g4)
              have D := Lib.hid (KW.out _ D4.out)
              clear g4 CS
              cases s
              · go_wp2_with fail
                go_ret
                exact SmE.no D.out
              · have T3 := Lib.hid (T2.out rfl)
                clear T2
                go_wp2_with fail
                go_roundw
                case rel => first | exact ⟨k + 1, by omega, by go_num, T3, D4⟩ | ((try rw [ep]); (repeat (apply Exists.intro)); refine ⟨?_, rfl⟩; exact ⟨k + 1, by omega, by go_num, T3, D4⟩)
                case measure => simp [intOf]; omega
            · have hkm : k = mo := by omega
              have F3 : Hid (∀ y ∈ n.goals, partsT 20 20 y.2.2.1 ≤ 20) := Lib.hid (fun y hy => by
                obtain ⟨j, hj⟩ := List.mem_iff_getElem?.1 hy
                exact hT.out j y (by have := (List.getElem?_eq_some_iff.1 hj).1; have := HO.out; omega) hj)
              have hlt' : ¬ (k : Int) < mo := by omega
              have DST := Lib.hid hD.out
              generalize hwx : wr = wx at *
              clear hT hD hkm hwx hlt
              go_wp2_with fail
              clear q1 q2 q3 q4 q5 q6 q7 q8 q9 q10 q11
              go_loopw [6] (fun i wr => ∃ k : Nat, k ≤ ms ∧ i = .int .i64 k ∧ Hid (∀ j y, j < k → n.sees[j]? = some y → partsT 20 20 y.2.2.1 ≤ 20) ∧ Hid (Below W1.heap.size W1 wr)) (fun i _ => ms - (intOf i).toNat)
              case atStart => exact ⟨0, Nat.zero_le _, rfl, Lib.hid (fun j y hj => by omega), DST⟩
              case round =>
                clear DST
                obtain ⟨k, hk, rfl, hT, hD⟩ := hrel
                obtain ⟨q1, q2, q3, q4, q5, q6, q7, q8, q9, q10, q11⟩ := HQ.out wr hD.out
                by_cases hlt : k < ms
                · obtain ⟨x, hx⟩ : ∃ x, n.sees[k]? = some x := ⟨n.sees[k]'(by rw [HS.out]; exact hlt), by simp⟩
                  have j0 : (0 : Int) ≤ (k : Int) := by omega
                  have j1 : (k : Int) < ms := by omega
                  obtain ⟨vx, b, o, ep, hbB, ix, hcx⟩ := (NK.out wr hD.out).sees.at hx
                  obtain ⟨q, d, ex⟩ : ∃ q d, vx = .slice q x.2.2.1.args.length d := ix.1.form
                  subst ex
                  have c1 : wr.cell? ⟨b, o + k * 5 + 2, none⟩ = some (.string x.2.2.1.nm) := hcx 2 _ rfl
                  have c2 : wr.cell? ⟨b, o + k * 5 + 2 + 1, none⟩ = some (.slice q x.2.2.1.args.length d) := hcx 3 _ rfl
                  have CS := Lib.hid (sm_any x.2.2.1 B wr _ (Nat.le_trans hB (KW.out wr hD.out).size) ix.1)
                  have HX := Lib.hid hx
                  clear hx ix hcx
                  obtain ⟨s, hs⟩ : ∃ s, decide (partsT 20 20 x.2.2.1 ≤ 20) = s := ⟨_, rfl⟩
                  rw [hs] at CS
                  have HS9 := Lib.hid hs
                  clear hs
                  have T2 : Hid (s = true → ∀ j y, j < k + 1 → n.sees[j]? = some y → partsT 20 20 y.2.2.1 ≤ 20) := Lib.hid (fun es j y hj hy => by
                    by_cases e : j = k
                    · subst e
                      rw [HX.out] at hy
                      injection hy with hy
                      rw [← hy]
                      exact of_decide_eq_true (HS9.out.trans es)
                    · exact hT.out j y (by omega) hy)
                  clear HX HS9
                  generalize x.2.2.1.nm = xn at *
                  generalize x.2.2.1.args.length = xa at *
                  go_wp2_with fail
                  refine CS.out.mono ?_
                  rintro e w4 ⟨rfl, g4⟩
                  have D4 := Lib.hid (next0 hD.out g4)
                  have D := Lib.hid (KW.out _ D4.out)
                  clear g4 CS
                  cases s
                  · go_wp2_with fail
                    go_ret
                    exact SmE.no D.out
                  · have T3 := Lib.hid (T2.out rfl)
                    clear T2
                    go_wp2_with fail
                    go_roundw
                    case rel => first | exact ⟨k + 1, by omega, by go_num, T3, D4⟩ | ((try rw [ep]); (repeat (apply Exists.intro)); refine ⟨?_, rfl⟩; exact ⟨k + 1, by omega, by go_num, T3, D4⟩)
                    case measure => simp [intOf]; omega
                · have hkm : k = ms := by omega
                  have F4 : Hid (∀ y ∈ n.sees, partsT 20 20 y.2.2.1 ≤ 20) := Lib.hid (fun y hy => by
                    obtain ⟨j, hj⟩ := List.mem_iff_getElem?.1 hy
                    exact hT.out j y (by have := (List.getElem?_eq_some_iff.1 hj).1; have := HS.out; omega) hj)
                  have hlt' : ¬ (k : Int) < ms := by omega
                  have DST := Lib.hid hD.out
                  generalize hwx : wr = wx at *
                  clear hT hD hkm hwx hlt
                  have D := Lib.hid (KW.out _ DST.out)
                  go_wp2_with fail
                  go_ret
                  exact SmE.yes ⟨by rw [HG.out]; omega, by rw [HR.out]; omega, by rw [HBs.out]; omega, by rw [HI.out]; omega, by rw [HA.out]; omega, by rw [HN.out]; omega, by rw [HL.out]; omega, by rw [HO.out]; omega, by rw [HS.out]; omega, F1.out, EA.out, EB.out, F2.out, F3.out, F4.out⟩ D.out
end NetSl
end Go.Proofs.YtgbbpliihglijaaGreat
/- A network of moderate size meets the conditions of Check's contract. -/
namespace Go.Proofs.YtgbbpliihglijaaGreat
open Go Go.RowKit
namespace NetSz
open LexM TermM TermI TermS NetM NetN NetK NetS NetSl
theorem sz_le {t : Tm} (h : partsT 20 20 t ≤ 20) : sizeT t ≤ 1000000 := by
  have := (parts_size 20 20 t h).1
  omega
theorem sz_of {n : Nt} (h : SmN n) : SzN n :=
  ⟨fun t ht => sz_le (h.szb t ht), fun t ht => sz_le (h.szi t ht), fun t ht => sz_le (h.szs t ht), by have := h.next; omega, by have := h.legal; omega, by have := h.goals; omega, by have := h.sees; omega⟩
end NetSz
end Go.Proofs.YtgbbpliihglijaaGreat
