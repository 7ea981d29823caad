/- Texts laid together: UniL; TermL; TermE; TermF. Their own heads stand before each. -/
import Derived.Test.YtaenalpckloikaaGreatDoorGA8
import Derived.Test.YtaenalpckloikaaGreatDoorGA3
import Derived.OwnWalk
import Derived.Laws.OwnMore
import Derived.Deep.DeepCutAuto
import Derived.Deep.RegionWith
import Derived.Maps.Own
import Derived.Maps.Views
import Derived.Maps.OwnOps
/- The code's variable, sameHead, bind and extend. Conditions: the substitution's names ascend and are at most 64. -/
namespace Go.Proofs.YtaenalpckloikaaGreatDoor
open Go Go.RowKit
namespace UniL
open LexM TermM TermI Kit TermN TermU UniK UniM UniA UniC UniD UniE UniG UniJ UniO
set_option maxRecDepth 100000 in
theorem cvar_t (t : Tm) (p : Option Addr) (c : Nat) (w : World) (hn : t.nm.size ≤ maxLen) :
    Calls Tryz.prog 80 #[.agg #[.string t.nm, .slice p t.args.length c]] w fun e w' => e = .returned (.bool (isV t)) ∧ Gr w w' := by
  have KV := Lib.hid (fun w' => TermC.var_any t.nm w' hn)
  have vb_ : Hid (varL t.nm.data.toList = varB t.nm) := rfl
  rw [vb_.out] at KV
  have E : isV t = (t.args.isEmpty && varB t.nm) := rfl
  obtain ⟨n, l⟩ := t
  dsimp only [Tm.nm, Tm.args] at *
  generalize isV (.mk n l) = R at *
  generalize varB n = vb at *
  cases l with
  | nil =>
    simp only [List.isEmpty_nil, Bool.true_and] at E
    subst E
    go_enter Tryz.func80, Tryz.ntmps80
    go_wp2_with fail
    refine (KV.out _).mono ?_
    rintro e w' ⟨rfl, rfl⟩
    go_wp2_with fail
    go_ret
    exact ⟨rfl, Gr.alloc _ _⟩
  | cons a l =>
    simp only [List.isEmpty_cons, Bool.false_and] at E
    subst E
    have h0 : ((((a :: l).length : Nat) : Int) == 0) = false := by rw [beq_eq_false_iff_ne]; simp; omega
    generalize (a :: l).length = m at *
    go_enter Tryz.func80, Tryz.ntmps80
    go_wp2_with fail
    go_ret
    exact ⟨rfl, Gr.alloc _ _⟩
theorem head_any (n m : ByteArray) (p q : Option Addr) (a c b d : Nat) (w : World) :
    Calls Tryz.prog 82 #[.agg #[.string n, .slice p a c], .agg #[.string m, .slice q b d]] w fun e w' => e = .returned (.bool (eqB n m && decide (a = b))) ∧ Gr w w' := by
  obtain ⟨z, hz⟩ : ∃ z, (n.toList == m.toList) = z := ⟨_, rfl⟩
  have HZ : eqB n m = z := by unfold eqB; rw [← hz, ByteArray.toList_eq, ByteArray.toList_eq]
  rw [HZ]
  obtain ⟨y, hy⟩ : ∃ y, ((a : Int) == (b : Int)) = y := ⟨_, rfl⟩
  have HY : decide (a = b) = y := by
    rw [← hy]
    by_cases h : a = b
    · subst h; simp
    · have : ¬ ((a : Int) = (b : Int)) := by omega
      simp [h, this]
  rw [HY]
  clear HZ HY
  cases z
  · go_enter Tryz.func82, Tryz.ntmps82
    go_wp2_with fail
    go_ret
    exact ⟨rfl, (Gr.alloc _ _).more _⟩
  · go_enter Tryz.func82, Tryz.ntmps82
    go_wp2_with fail
    go_ret
    exact ⟨rfl, (Gr.alloc _ _).more _⟩
theorem sin_clip {ok : Nat → Prop} {w : World} {s : List Bd} {p : Option Addr} {c : Nat} (h : SIn ok w s (.slice p s.length c)) : SIn ok w s (.slice p s.length s.length) := by
  obtain ⟨L, rfl, p', c', e, h1, h2, h3, h4⟩ := h
  have hll : (L.map (·.1)).length = L.length := by simp
  rw [hll] at e ⊢
  cases e
  exact ⟨L, rfl, p, L.length, rfl, Nat.le_refl _, Nat.le_trans h1 h2, h3, h4⟩
/-- A substitution, or none. -/
def BndR (o : Option (List Bd)) (w : World) (e : Ending) (w' : World) : Prop :=
  ∃ (v : Value) (f : Bool), e = .returned (.tuple #[v, .bool f]) ∧ (f = true → ∃ s', o = some s' ∧ SIn (· < w'.heap.size) w' s' v) ∧ (f = false → o = none) ∧ Below w.heap.size w w'
/-- A substitution, or the nil list. -/
def MtR (o : Option (List Bd)) (w : World) (e : Ending) (w' : World) : Prop :=
  ∃ (v : Value) (f : Bool), e = .returned (.tuple #[v, .bool f]) ∧ (f = true → ∃ s', o = some s' ∧ SIn (· < w'.heap.size) w' s' v) ∧ (f = false → o = none ∧ v = .slice none 0 0) ∧ Below w.heap.size w w'
set_option maxRecDepth 100000 in
set_option maxHeartbeats 6400000 in
theorem bind_any (s : List Bd) (v : ByteArray) (t : Tm) (hS : Srt s) (hl : s.length ≤ 64) (B : Nat) (w : World) (sv tv : Value) (hB : B ≤ w.heap.size) (hs : SIn (· < B) w s sv) (h : SlIn (· < B) w t.args tv) (hn : t.nm.size ≤ maxLen) (hv : v.size ≤ maxLen) :
    Calls Tryz.prog 81 #[sv, .string v, .agg #[.string t.nm, tv]] w (BndR (bindP true s v t) w) := by
  obtain ⟨p, c, rfl⟩ := h.form
  obtain ⟨W1, hW1⟩ : ∃ W1, W1 = w.alloc (.cells #[.string t.nm, .slice p t.args.length c] 27) := ⟨_, rfl⟩
  have G1 : Gr w W1 := by rw [hW1]; exact Gr.alloc _ _
  have H1 : Hid (Has W1 w.heap.size #[.string t.nm, .slice p t.args.length c]) := Lib.hid (by rw [hW1]; exact Has.new _ _ _)
  have CF := Lib.hid (find_any s v hS (by omega) B W1 sv (Nat.le_trans hB G1.size) (hs.gr G1 hB))
  have HSI := Lib.hid (fun w' (k : Below w.heap.size w w') => hs.deep k hB)
  have HTI := Lib.hid (fun w' (k : Below w.heap.size w w') => h.deep k hB)
  obtain ⟨ps, cs, rfl, hc, hm, hR⟩ := SIn.row hs
  have HR := Lib.hid hR
  have HB := Lib.hid hB
  have HS := Lib.hid hS
  have GG := Lib.hid G1
  have HN := Lib.hid hn
  have HV := Lib.hid hv
  have hb64 : s.length ≤ 64 := hl
  unfold maxLen at hm
  generalize hln : s.length = n at *
  have HLN := Lib.hid hln
  clear hs h hR hB hn hv hS G1 hln
  unfold FoundS at CF
  unfold BndR
  go_enter Tryz.func81, Tryz.ntmps81
  go_upto_region 1 with fail
  rw [← hW1]
  clear hW1
  go_wp2_with fail
  refine CF.out.mono ?_
  rintro e w2 ⟨⟨i, f, hi, rfl, h1, h2, h3⟩, g2⟩
  have D2 := Lib.hid (next0 GG.out.1 g2.1)
  have H2 := Lib.hid (H1.out.step0 g2.1)
  clear g2 H1 CF
  obtain ⟨y1, y2, y3, y4, y5⟩ := H2.out.two
  cases f
  · have HN3 := Lib.hid (show lookS s v = none from look_not HS.out h1 h2 (fun ⟨y, a, b⟩ => by have := h3.2 ⟨y, a, b⟩; cases this))
    have PA := Lib.hid (put_at v t s i hi h1 h2 HN3.out)
    clear h1 h2 h3
    by_cases h64 : n = 64
    · have hb : ((n : Int) == 64) = true := by subst h64; rfl
      have EO : Hid (bindP true s v t = none) := Lib.hid (by unfold bindP; rw [HN3.out]; simp [HLN.out, h64])
      clear PA
      clear h64
      go_wp2_with fail
      refine bodyPost_ret (v := .tuple #[.slice none 0 0, .bool false]) (by simp [results, Tryz.results81, go_sem]) rfl ?_
      exact ⟨_, false, rfl, (fun h => by cases h), (fun _ => EO.out), D2.out⟩
    · have hb : ((n : Int) == 64) = false := by rw [beq_eq_false_iff_ne]; omega
      have EO : Hid (bindP true s v t = some (putS (v, t) s)) := Lib.hid (by unfold bindP; rw [HN3.out]; simp [HLN.out, h64])
      have CI := Lib.hid (fun w' vb (k : Below w.heap.size w w') (hh : Has w' vb (KB.cells ((v, t), .slice p t.args.length c)).toArray) => by
        have := insert_any s (v, t) (.slice p t.args.length c) i vb ps w' hi (by rw [HLN.out]; omega) (by have := HSI.out w' k; rw [← HLN.out] at this; exact (sin_clip this).wide fun b hb => by have := HB.out; have := k.size; omega) ⟨(HTI.out w' k).weaken fun b hb => by have := HB.out; have := k.size; omega, HN.out, HV.out⟩ hh
        rw [PA.out, HLN.out] at this
        exact this)
      have CC := Lib.hid (fun w' => clip_any ps n cs w' hc (by unfold maxLen; exact hm))
      clear PA h64
      simp only [KB] at CI
      unfold InsR at CI
      go_wp2_with fail
      refine (CC.out _).mono ?_
      rintro e w3 ⟨rfl, rfl⟩
      go_wp2_with fail
      refine (CI.out (w3.alloc (.cells #[.string v, .string t.nm, .slice p t.args.length c] 52)) w3.heap.size (next0 D2.out (below_alloc _ _)) (Has.new _ _ _)).mono ?_
      rintro e w4 ⟨v4, rfl, hS4, hb4⟩
      have D4 := Lib.hid (next0 (next0 D2.out (below_alloc _ _)) hb4)
      have S4 := Lib.hid hS4
      clear hS4 hb4 CI CC
      go_wp2_with fail
      refine bodyPost_ret (v := .tuple #[v4, .bool true]) (by simp [results, Tryz.results81, go_sem]) rfl ?_
      exact ⟨_, true, rfl, (fun _ => ⟨_, EO.out, S4.out⟩), (fun h => by cases h), D4.out⟩
  · obtain ⟨y, hy, hy0⟩ := h3.1 rfl
    have HF := Lib.hid (look_found HS.out hy hy0)
    have hin : i < n := by rw [← HLN.out]; exact (List.getElem?_eq_some_iff.1 hy).1
    obtain ⟨x, b, o, q, d, hx, rfl, hb, c1, c2, c3, hsx, hxn, hxv⟩ := (RowS.deep HR.out D2.out HB.out) i (by rw [HLN.out]; exact hin)
    rw [hy] at hx
    cases hx
    have CC := Lib.hid (fun w' (k : Below w2.heap.size w2 w') => TermR.cmp_any y.2 B w' (.slice q y.2.args.length d) t (.slice p t.args.length c) (Nat.le_trans HB.out (Nat.le_trans D2.out.size k.size)) hxn HN.out (hsx.deep (B' := w2.heap.size) k (Nat.le_trans HB.out D2.out.size)) (HTI.out w' (next0 D2.out k)))
    have EO : Hid (bindP true s v t = if cmpT y.2 t = 0 then some s else none) := Lib.hid (by unfold bindP; rw [HF.out])
    have S2 := Lib.hid (fun w' (k : Below w2.heap.size w2 w') => (HSI.out w' (next0 D2.out k)).wide (ok' := (· < w'.heap.size)) fun b hb => by have := HB.out; have := D2.out.size; have := k.size; omega)
    clear hsx hxn hxv hy hy0 HSI HTI h1 h2 h3 HF hi
    obtain ⟨z, hz⟩ : ∃ z, (cmpT y.2 t == 0) = z := ⟨_, rfl⟩
    have EZ : Hid (bindP true s v t = if z = true then some s else none) := Lib.hid (by rw [EO.out, ← hz]; simp)
    clear EO
    generalize y.2.nm = yn at *
    generalize y.2.args.length = ya at *
    generalize cmpT y.2 t = cc at *
    go_wp2_with fail
    go_region_with (first
      | (go_at_call 60; (with_reducible refine (CC.out _ (by first | exact Below.refl _ _ | exact (Below.refl _ _).drew | exact below_drewN (Below.refl _ _) _)).mono ?_); rintro e w3 ⟨rfl, g3⟩; have D3 : Hid (Below w2.heap.size w2 w3) := Lib.hid (by first | exact g3.1 | exact next0 (Below.refl _ _).drew g3.1 | exact next0 (below_drewN (Below.refl _ _) _) g3.1); clear g3))
    all_goals
      go_wp2_with fail
      refine bodyPost_ret (v := .tuple #[.slice (some ⟨b, o, none⟩) n cs, .bool z]) (by simp [results, Tryz.results81, go_sem]) rfl ?_
      cases z
      · exact ⟨_, false, rfl, (fun h => by cases h), (fun _ => EZ.out), next0 D2.out D3.out⟩
      · exact ⟨_, true, rfl, (fun _ => ⟨s, EZ.out, S2.out _ D3.out⟩), (fun h => by cases h), next0 D2.out D3.out⟩
set_option maxRecDepth 100000 in
set_option maxHeartbeats 6400000 in
theorem ext_any (p : Tm) : ∀ (t : Tm) (s : List Bd), Srt s → s.length ≤ 64 → ∀ (B : Nat) (w : World) (sv pv tv : Value), B ≤ w.heap.size → SIn (· < B) w s sv → SlIn (· < B) w p.args pv → SlIn (· < B) w t.args tv → p.nm.size ≤ maxLen → t.nm.size ≤ maxLen →
    Calls Tryz.prog 50 #[sv, .agg #[.string p.nm, pv], .agg #[.string t.nm, tv]] w (BndR (extP true p t s) w) := by
  induction p using Tm.ind with
  | h n l ih =>
    rintro ⟨n2, r⟩ s hS hl B w sv pv tv hB hs hp ht hpn htn
    dsimp only [Tm.args, Tm.nm] at hp hpn ht htn ⊢
    obtain ⟨p1, c1, rfl, _, hlc, hcm, hPR⟩ := hp.row
    obtain ⟨p2, c2, rfl, _, _, _, hTR⟩ := ht.row
    have h63 : l.length ≤ 9223372036854775807 := by unfold maxLen at hcm; omega
    clear hlc hcm
    obtain ⟨W2, hW2⟩ : ∃ W2, W2 = (w.alloc (.cells #[.string n, .slice p1 l.length c1] 27)).alloc (.cells #[.string n2, .slice p2 r.length c2] 27) := ⟨_, rfl⟩
    have G2 : Gr w W2 := by rw [hW2]; exact (Gr.alloc _ _).more _
    have H2 : Hid (Has W2 w.heap.size #[.string n, .slice p1 l.length c1]) := Lib.hid (by rw [hW2]; exact (Has.new w _ _).alloc _)
    have T2 : Hid (Has W2 (w.heap.size + 1) #[.string n2, .slice p2 r.length c2]) := Lib.hid (by rw [hW2]; exact Has.new1 w _ _ _)
    have CV := Lib.hid (fun w' => cvar_t (.mk n l) p1 c1 w' hpn)
    have CH := Lib.hid (fun w' => head_any n n2 p1 p2 l.length c1 r.length c2 w')
    have CB := Lib.hid (fun w' (k : Below w.heap.size w w') => bind_any s n (.mk n2 r) hS hl B w' sv _ (Nat.le_trans hB k.size) (hs.deep k hB) (ht.deep k hB) htn hpn)
    have IH : Hid (∀ x ∈ l, ∀ (y : Tm) (s' : List Bd), Srt s' → s'.length ≤ 64 → ∀ (w' : World) (sv' v1 v2 : Value), SIn (· < w'.heap.size) w' s' sv' → SlIn (· < w'.heap.size) w' x.args v1 → SlIn (· < w'.heap.size) w' y.args v2 → x.nm.size ≤ maxLen → y.nm.size ≤ maxLen → Calls Tryz.prog 50 #[sv', .agg #[.string x.nm, v1], .agg #[.string y.nm, v2]] w' (BndR (extP true x y s') w')) :=
      Lib.hid (fun x hx y s' h1 h2 w' sv' v1 v2 h3 h4 h5 h6 h7 => ih x hx y s' h1 h2 w'.heap.size w' sv' v1 v2 (Nat.le_refl _) h3 h4 h5 h6 h7)
    have KP := Lib.hid (fun (x : Tm) (y : Tm) s' s'' (h : Srt s') (e : extP true x y s' = some s'') => ext_keeps true x y s' s'' h e)
    have GG := Lib.hid G2
    have HB := Lib.hid hB
    have HPR := Lib.hid hPR
    have HTR := Lib.hid hTR
    have SS := Lib.hid (fun w' (k : Below w.heap.size w w') => (hs.deep k hB).wide (ok' := (· < w'.heap.size)) fun b hb => by have := k.size; omega)
    have HSL := Lib.hid (And.intro hS hl)
    have EP : Hid (extP true (.mk n l) (.mk n2 r) s = if isV (.mk n l) then bindP true s n (.mk n2 r) else if eqB n n2 && decide (l.length = r.length) then extL true l r s else none) := Lib.hid (by rw [extP]; rfl)
    clear hs hp ht hpn htn hPR hTR hS hl ih hB G2
    obtain ⟨y1, y2, y3, y4, y5⟩ := H2.out.two
    obtain ⟨z1, z2, z3, z4, z5⟩ := T2.out.two
    obtain ⟨vb, hvb⟩ : ∃ vb, isV (.mk n l) = vb := ⟨_, rfl⟩
    rw [hvb] at EP CV
    generalize hsm : (eqB n n2 && decide (l.length = r.length)) = sm at *
    have SM := Lib.hid hsm
    dsimp only [Tm.nm, Tm.args] at CV CB
    unfold BndR at CB IH
    generalize hla : l.length = a at *
    generalize hlr : r.length = b at *
    have HLA := Lib.hid hla
    have HLR := Lib.hid hlr
    clear hla hlr
    cases vb
    · cases sm
      · have EO : Hid (extP true (.mk n l) (.mk n2 r) s = none) := Lib.hid (by rw [EP.out]; simp)
        clear EP hvb hsm SM IH KP CB
        go_enter Tryz.func50, Tryz.ntmps50
        go_upto_region 1 with fail
        rw [← hW2]
        clear hW2
        go_wp2_with fail
        refine (CV.out _).mono ?_
        rintro e w3 ⟨rfl, g3⟩
        have D3 := Lib.hid (next0 GG.out.1 g3.1)
        clear y1 y2 y3 y4 y5 z1 z2 z3 z4 z5
        obtain ⟨y1, y2, y3, y4, y5⟩ := (H2.out.step0 g3.1).two
        obtain ⟨z1, z2, z3, z4, z5⟩ := (T2.out.step0 g3.1).two
        go_wp2_with fail
        refine (CH.out _).mono ?_
        rintro e w4 ⟨rfl, g4⟩
        have D4 := Lib.hid (next0 D3.out g4.1)
        go_wp2_with fail
        refine bodyPost_ret (v := .tuple #[.slice none 0 0, .bool false]) (by simp [results, Tryz.results50, go_sem]) rfl ?_
        unfold BndR
        exact ⟨_, false, rfl, (fun h => by cases h), (fun _ => EO.out), D4.out⟩
      · have EO : Hid (extP true (.mk n l) (.mk n2 r) s = extL true (l.drop 0) (r.drop 0) s) := Lib.hid (by rw [EP.out]; simp)
        have hab : a = b := by
          have := SM.out
          rw [Bool.and_eq_true, decide_eq_true_eq] at this
          exact this.2
        subst hab
        clear EP hvb hsm SM CB
        go_enter Tryz.func50, Tryz.ntmps50
        go_upto_region 1 with fail
        rw [← hW2]
        clear hW2
        go_wp2_with fail
        refine (CV.out _).mono ?_
        rintro e w3 ⟨rfl, g3⟩
        have D3 := Lib.hid (next0 GG.out.1 g3.1)
        have H3 := Lib.hid (H2.out.step0 g3.1)
        have T3 := Lib.hid (T2.out.step0 g3.1)
        clear y1 y2 y3 y4 y5 z1 z2 z3 z4 z5 g3 H2 T2
        obtain ⟨y1, y2, y3, y4, y5⟩ := H3.out.two
        obtain ⟨z1, z2, z3, z4, z5⟩ := T3.out.two
        go_wp2_with fail
        refine (CH.out _).mono ?_
        rintro e w4 ⟨rfl, g4⟩
        have D4 := Lib.hid (next0 D3.out g4.1)
        have H4 := Lib.hid (H3.out.step0 g4.1)
        have T4 := Lib.hid (T3.out.step0 g4.1)
        clear y1 y2 y3 y4 y5 z1 z2 z3 z4 z5 g4 H3 T3 D3
        obtain ⟨y1, y2, y3, y4, y5⟩ := H4.out.two
        obtain ⟨z1, z2, z3, z4, z5⟩ := T4.out.two
        go_wp2_with fail
        clear y1 y2 y3 y4 y5 z1 z2 z3 z4 z5
        go_loopw [0, 27] (fun v i wr => ∃ (k : Nat) (s' : List Bd), k ≤ a ∧ i = .int .i64 k ∧ Hid (extL true (l.drop 0) (r.drop 0) s = extL true (l.drop k) (r.drop k) s') ∧ Hid (Srt s' ∧ s'.length ≤ 64) ∧ Hid (SIn (· < wr.heap.size) wr s' v) ∧ Hid (Below w4.heap.size w4 wr)) (fun _ i _ => a - (intOf i).toNat)
        case atStart => exact ⟨0, s, Nat.zero_le _, rfl, Lib.hid rfl, HSL, Lib.hid (SS.out _ D4.out), Lib.hid (Below.refl _ _)⟩
        case round =>
          obtain ⟨k, s', hk, rfl, hE, hQ, hI, hD⟩ := hrel
          by_cases hlt : k < a
          · have D5 := Lib.hid (next0 D4.out hD.out)
            obtain ⟨x, b, o, q, d, hx, rfl, hb, e1, e2, hxs, hxn⟩ := (Row.deep HPR.out D5.out HB.out) k (by rw [HLA.out]; exact hlt)
            obtain ⟨y, b2, o2, q2, d2, hy, rfl, hb2, u1, u2, hys, hyn⟩ := (Row.deep HTR.out D5.out HB.out) k (by rw [HLR.out]; exact hlt)
            obtain ⟨z1, z2, z3, z4, z5⟩ := (T4.out.step0 hD.out).two
            have EX := Lib.hid (hE.out.trans (ext_list hx hy s'))
            have CI := Lib.hid (fun w' (g : Below wr.heap.size wr w') => IH.out x (List.mem_of_getElem? hx) y s' hQ.out.1 hQ.out.2 w' _ _ _ ((hI.out.deep g (Nat.le_refl _)).wide fun b hb => Nat.lt_of_lt_of_le hb g.size) ((hxs.deep g (Nat.le_trans HB.out D5.out.size)).weaken fun b hb => by have := HB.out; have := D5.out.size; have := g.size; omega) ((hys.deep g (Nat.le_trans HB.out D5.out.size)).weaken fun b hb => by have := HB.out; have := D5.out.size; have := g.size; omega) hxn hyn)
            have KK := Lib.hid (fun s'' (e : extP true x y s' = some s'') => KP.out x y s' s'' hQ.out.1 e)
            clear hx hy hxs hxn hys hyn hI hE
            generalize extP true x y s' = o9 at *
            generalize x.nm = xn at *
            generalize x.args.length = xa at *
            generalize y.nm = yn at *
            generalize y.args.length = ya at *
            obtain ⟨W5, hW5⟩ : ∃ W5, W5 = wr.alloc (.cells #[.string xn, .slice q xa d] 27) := ⟨_, rfl⟩
            have K5 : Hid (Below wr.heap.size wr W5) := Lib.hid (by rw [hW5]; exact below_alloc _ _)
            obtain ⟨a1, a2, _⟩ := (show Has W5 wr.heap.size #[.string xn, .slice q xa d] by rw [hW5]; exact Has.new _ _ _).two
            have f1 : W5.cell? ⟨b2, o2 + k * 2, none⟩ = some (.string yn) := (K5.out.cell (p := ⟨b2, _, none⟩) (by have := HB.out; have := D5.out.size; show b2 < wr.heap.size; omega)).trans u1
            have f2 : W5.cell? ⟨b2, o2 + k * 2 + 1, none⟩ = some (.slice q2 ya d2) := (K5.out.cell (p := ⟨b2, _, none⟩) (by have := HB.out; have := D5.out.size; show b2 < wr.heap.size; omega)).trans u2
            have f3 : W5.cell? ⟨w.heap.size + 1, 1, none⟩ = some (.slice (some ⟨b2, o2, none⟩) a c2) := (K5.out.cell (p := ⟨w.heap.size + 1, 1, none⟩) (by show w.heap.size + 1 < wr.heap.size; omega)).trans z2
            go_upto_region 9 with fail
            rw [← hW5]
            clear hW5 e1 e2 u1 u2 z1 z2 z3 z4
            go_region_with (first
              | (go_at_call 50; (with_reducible refine (CI.out _ (by first | exact K5.out | exact K5.out.drew | exact below_drewN K5.out _)).mono ?_); rintro e w6 ⟨v6, f, rfl, h1, h2, hb6⟩; have D6 : Hid (Below wr.heap.size wr w6) := Lib.hid (by first | exact next0 K5.out hb6 | exact next0 K5.out.drew hb6 | exact next0 (below_drewN K5.out _) hb6); have HH := Lib.hid (And.intro h1 h2); clear h1 h2 hb6))
            all_goals
              cases f
              · have EF := Lib.hid (EX.out.trans (by rw [HH.out.2 rfl]))
                go_wp2_with fail
                refine bodyPost_ret (v := .tuple #[.slice none 0 0, .bool false]) (by simp [results, Tryz.results50, go_sem]) rfl ?_
                unfold BndR
                exact ⟨_, false, rfl, (fun h => by cases h), (fun _ => EO.out.trans EF.out), next0 D5.out D6.out⟩
              · obtain ⟨s9, hs9, hI9⟩ := HH.out.1 rfl
                have EF := Lib.hid (EX.out.trans (by rw [hs9]))
                have K9 := Lib.hid (KK.out s9 hs9)
                have I9 := Lib.hid hI9
                clear hs9 hI9 HH
                go_wp2_with fail
                go_roundw
                case rel => exact ⟨k + 1, s9, by omega, by go_num, EF, Lib.hid ⟨K9.out.1, K9.out.2.2.2 rfl hQ.out.2⟩, I9, Lib.hid (next0 hD.out D6.out)⟩
                case measure => simp [intOf]; omega
          · obtain rfl : k = a := by omega
            have EF : Hid (extP true (.mk n l) (.mk n2 r) s = some s') := Lib.hid (by
              rw [EO.out, hE.out, ← HLA.out, List.drop_length, HLA.out, ← HLR.out, List.drop_length]
              rfl)
            go_wp2_with fail
            refine bodyPost_ret (by simp [results, Tryz.results50, go_sem]; rfl) rfl ?_
            unfold BndR
            exact ⟨_, true, rfl, (fun _ => ⟨s', EF.out, hI.out⟩), (fun h => by cases h), next0 D4.out hD.out⟩
    · have EO : Hid (extP true (.mk n l) (.mk n2 r) s = bindP true s n (.mk n2 r)) := Lib.hid (by rw [EP.out]; simp)
      clear EP hvb hsm SM IH KP
      go_enter Tryz.func50, Tryz.ntmps50
      go_upto_region 1 with fail
      rw [← hW2]
      clear hW2
      go_wp2_with fail
      refine (CV.out _).mono ?_
      rintro e w3 ⟨rfl, g3⟩
      have D3 := Lib.hid (next0 GG.out.1 g3.1)
      clear y1 y2 y3 y4 y5 z1 z2 z3 z4 z5
      obtain ⟨y1, y2, y3, y4, y5⟩ := (H2.out.step0 g3.1).two
      obtain ⟨z1, z2, z3, z4, z5⟩ := (T2.out.step0 g3.1).two
      go_wp2_with fail
      refine (CB.out _ D3.out).mono ?_
      rintro e w4 ⟨v4, f, rfl, h1, h2, hb⟩
      have D4 := Lib.hid (next0 D3.out hb)
      have HH := Lib.hid (And.intro h1 h2)
      clear h1 h2 hb
      go_wp2_with fail
      refine bodyPost_ret (v := .tuple #[v4, .bool f]) (by simp [results, Tryz.results50, go_sem]) rfl ?_
      unfold BndR
      exact ⟨_, f, rfl, (fun h => by rw [EO.out]; exact HH.out.1 h), (fun h => by rw [EO.out]; exact HH.out.2 h), D4.out⟩
end UniL
end Go.Proofs.YtaenalpckloikaaGreatDoor
/- appendLeaves: the names of the parts without arguments, appended to a row of the call's own. Condition: at most a million parts. -/
namespace Go.Proofs.YtaenalpckloikaaGreatDoor
open Go Go.RowKit
namespace TermL
open LexM TermM TermI Kit TermN TermU
def strs (xs : List ByteArray) : List Value := xs.map Value.string
theorem strs_len (xs : List ByteArray) : (strs xs).length = xs.length := by simp [strs]
theorem leavesT_arg (t : Tm) : leavesT t = if t.args.isEmpty then [t.nm] else leavesL t.args := by cases t; rfl
theorem leaves_len (t : Tm) : (leavesT t).length ≤ sizeT t := by
  induction t using Tm.ind with
  | h n l ih =>
    have hL : (leavesL l).length ≤ sizeL l := by
      induction l with
      | nil => simp [leavesL]
      | cons a l ihl =>
        have h1 := ih a (by simp)
        have h2 := ihl (fun x hx => ih x (by simp [hx]))
        simp only [leavesL, sizeL, List.length_append]
        omega
    simp only [leavesT, sizeT]
    split
    · simp
    · omega
theorem leavesL_len (l : List Tm) : (leavesL l).length ≤ sizeL l := by
  induction l with
  | nil => simp [leavesL]
  | cons a l ih =>
    have h1 := leaves_len a
    simp only [leavesL, sizeL, List.length_append]
    omega
theorem leaves_next (l : List Tm) (k : Nat) (t : Tm) (h : l[k]? = some t) : leavesL (l.take (k + 1)) = leavesL (l.take k) ++ leavesT t := by
  rw [take_get l k t h, leavesL_app]; simp [leavesL]
/-- What appendLeaves leaves. -/
def Lvs (base : Nat) (ys : List ByteArray) (w : World) (e : Ending) (w' : World) : Prop :=
  ∃ v', e = .returned v' ∧ w'.ownsRow base 9 1 v' ys.length (strs ys) ∧ Below base w w'
def LvsT (l : List Tm) : Prop := ∀ (B : Nat) (w : World) (base : Nat) (v sv : Value) (xs : List ByteArray), w.ownsRow base 9 1 v xs.length (strs xs) → base ≤ w.heap.size → B ≤ base → SlIn (· < B) w l sv → xs.length + sizeL l ≤ 3000000 →
  Calls Tryz.prog 86 #[v, sv] w (Lvs base (xs ++ leavesL l) w)
theorem news1' (w : World) (a : Value) (t : TypeId) (o : Obj) : ∀ j u, [a][j]? = some u → ((w.alloc o).alloc (.cells #[a] t)).cell? ((⟨w.heap.size + 1, 0, none⟩ : Addr).add j) = some u := by
  have h : ∀ j u, [a][j]? = some u → ((w.alloc o).alloc (.cells #[a] t)).cell? ((⟨(w.alloc o).heap.size, 0, none⟩ : Addr).add j) = some u := World.news_of_block (heap_alloc_new (w.alloc o) _)
  rwa [World.size_alloc] at h
theorem one1 (a : ByteArray) : ∀ u ∈ [Value.string a], u.oneCell' = true := by
  intro u hu
  obtain rfl := List.mem_singleton.1 hu
  rfl
theorem Tryz.info9s : (Tryz.prog.info? 9).map (fun i => (i.zero, i.size, i.bytes)) = some (some (.string ⟨#[]⟩), 1, 16) := by kernel_rfl
set_option maxRecDepth 100000 in
set_option maxHeartbeats 3200000 in
theorem lvs_list (l : List Tm) (ih : ∀ t ∈ l, LvsT t.args) : LvsT l := by
  obtain ⟨i0, hi, hz0, hz1, hz2⟩ := info_parts Tryz.info9s
  intro B w base v sv xs hown hbase hB h hz
  obtain ⟨p, c, rfl, _, hc, hm, hR⟩ := h.row
  have hlf : l.length ≤ 3000000 := by have := len_size l; omega
  have HR := Lib.hid hR
  have HB := Lib.hid hB
  have NX : Hid (∀ k t, l[k]? = some t → leavesL (l.take (k + 1)) = leavesL (l.take k) ++ leavesT t) := Lib.hid (fun k t h => leaves_next l k t h)
  have LN : Hid (∀ k, xs.length + (leavesL (l.take k)).length ≤ 3000000) := Lib.hid (fun k => by
    have h1 := leavesL_len (l.take k)
    have h2 := sizeL_take l k
    omega)
  have IH : Hid (∀ k t, l[k]? = some t → ∀ (w' : World) (v sv : Value), w'.ownsRow base 9 1 v (xs ++ leavesL (l.take k)).length (strs (xs ++ leavesL (l.take k))) → base ≤ w'.heap.size → SlIn (· < B) w' t.args sv →
      Calls Tryz.prog 86 #[v, sv] w' (Lvs base ((xs ++ leavesL (l.take k)) ++ leavesL t.args) w')) := Lib.hid (fun k t hk w' v sv ho hb hs => by
    refine ih t (List.mem_of_getElem? hk) B w' base v sv _ ho hb hB hs ?_
    have e := size_next l k t hk
    have h1 := sizeL_take l (k + 1)
    have h2 := leavesL_len (l.take k)
    have h3 : sizeL t.args + 1 = sizeT t := by cases t; simp [Tm.args, sizeT]
    rw [List.length_append]
    omega)
  have FL : Hid (leavesL (l.take l.length) = leavesL l) := Lib.hid (by simp)
  have HO := Lib.hid hown
  have X0 : Hid (xs ++ leavesL (l.take 0) = xs) := Lib.hid (by simp [leavesL])
  have LT := Lib.hid (fun t => leavesT_arg t)
  generalize hlm : l.length = m at *
  have HM := Lib.hid hlm
  clear ih hR h hown hlm hz hB hc hm
  unfold Lvs
  go_enter Tryz.func86, Tryz.ntmps86
  go_wp2_with fail
  go_loopw [0, 9] (fun v i wr => ∃ k : Nat, k ≤ m ∧ i = .int .i64 k ∧ Hid (wr.ownsRow base 9 1 v (xs ++ leavesL (l.take k)).length (strs (xs ++ leavesL (l.take k)))) ∧ Hid (Below base w wr)) (fun _ i _ => m - (intOf i).toNat)
  case atStart => exact ⟨0, Nat.zero_le _, rfl, by rw [X0.out]; exact HO, Lib.hid (Below.refl _ _)⟩
  case round =>
    obtain ⟨k, hk, rfl, hO, hD⟩ := hrel
    have hln := LN.out k
    by_cases hlt : k < m
    · obtain ⟨t, b, o, q, d, ht, rfl, hb, c1, c2, hs, hts⟩ := (Row.deep HR.out hD.out HB.out) k (by rw [HM.out]; exact hlt)
      have hN := NX.out k t ht
      have hLT := LT.out t
      have IT := Lib.hid (IH.out k t ht)
      have HS := Lib.hid hs
      have hsz := hD.out.size
      clear ht hs
      obtain ⟨tn, ta⟩ := t
      dsimp only [Tm.nm, Tm.args] at c1 c2 hLT hts IT HS
      cases ta with
      | nil =>
        simp only [List.isEmpty_nil, if_true] at hLT
        have NW : Hid (xs ++ leavesL (l.take (k + 1)) = (xs ++ leavesL (l.take k)) ++ [tn]) := Lib.hid (by rw [hN, hLT, List.append_assoc])
        have A1 : (xs ++ leavesL (l.take k)).length + 1 ≤ maxLen := by unfold maxLen; rw [List.length_append]; omega
        have A2 : ((xs ++ leavesL (l.take k)).length + 1) * 16 ≤ 140737488355328 := by rw [List.length_append]; omega
        have A3 : base ≤ ((wr.alloc (.cells #[.string tn, .slice q 0 d] 27)).alloc (.cells #[.string tn] 9)).heap.size := by simp; omega
        clear hN hLT hln
        generalize xs ++ leavesL (l.take k) = ys at *
        dsimp only [List.length_nil] at c2
        go_wp2_with (at_builtin; refine wpList_append_own _ rfl _ _ 73 rfl base 9 i0 (.string ⟨#[]⟩) 1 16 Tryz.underlying73 hi hz0 hz1 hz2 rfl (by decide) _ ys.length (strs ys) rfl ((hO.out.alloc _).alloc _) ⟨wr.heap.size + 1, 0, none⟩ 1 1 [.string tn] rfl rfl (news1' wr _ _ _) (one1 _) A1 A2 A3 ?_; intro v1 w1 hown1 hgrow1 _)
        have O2 : Hid (w1.ownsRow base 9 1 v1 (xs ++ leavesL (l.take (k + 1))).length (strs (xs ++ leavesL (l.take (k + 1))))) := Lib.hid (by
          rw [NW.out]
          unfold strs at hown1 ⊢
          rw [List.map_append, List.length_append]
          exact hown1)
        have D2 := Lib.hid (((hD.out.alloc (by omega) _).alloc (by simp; omega) _).grown hgrow1 (by simp; omega) (fun k hk => (hO.out.lt k hk).1))
        clear hown1 hgrow1
        go_wp2_with fail
        go_roundw
        case rel => exact ⟨k + 1, by omega, by go_num, O2, D2⟩
        case measure => simp [intOf]; omega
      | cons a r =>
        simp only [List.isEmpty_cons] at hLT
        have NW : Hid (xs ++ leavesL (l.take (k + 1)) = (xs ++ leavesL (l.take k)) ++ leavesL (a :: r)) := Lib.hid (by rw [hN, hLT, List.append_assoc]; rfl)
        clear hN hLT hln
        have hnz : (((a :: r).length : Int) == 0) = false := by simp; omega
        generalize (a :: r) = ar at *
        go_wp2_with fail
        refine (IT.out _ _ _ (hO.out.alloc _) (by simp; omega) (HS.out.gr (Gr.alloc _ _) (Nat.le_trans HB.out (by omega)))).mono ?_
        rintro e w2 ⟨v2, rfl, ho2, hd2⟩
        have O2 : Hid (w2.ownsRow base 9 1 v2 (xs ++ leavesL (l.take (k + 1))).length (strs (xs ++ leavesL (l.take (k + 1))))) := Lib.hid (by rw [NW.out]; exact ho2)
        have D2 := Lib.hid ((hD.out.alloc (by omega) _).trans hd2)
        clear ho2 hd2
        go_wp2_with fail
        go_roundw
        case rel => exact ⟨k + 1, by omega, by go_num, O2, D2⟩
        case measure => simp [intOf]; omega
    · obtain rfl : k = m := by omega
      have hO2 := hO.out
      rw [FL.out] at hO2
      have hO3 := Lib.hid hO2
      clear hO2 hln
      go_wp2_with fail
      go_ret
      exact ⟨_, rfl, hO3.out, hD.out⟩
theorem lvs_args (t : Tm) : LvsT t.args := by
  induction t using Tm.ind with
  | h n l ih => exact lvs_list l ih
theorem lvs_any (l : List Tm) : LvsT l := lvs_list l (fun t _ => lvs_args t)
end TermL
end Go.Proofs.YtaenalpckloikaaGreatDoor
/- Vars: the variables among the leaves, each once, in the order of their first occurrence. Condition: at most a million parts. -/
namespace Go.Proofs.YtaenalpckloikaaGreatDoor
open Go Go.RowKit Go.Maps Go.WideMaps
namespace TermE
open LexM TermM TermI Kit TermN TermU TermL TermC
/-- Is the string among these? -/
def hasB (M : List ByteArray) (s : ByteArray) : Bool := M.any fun x => x.data.toList == s.data.toList
def addV (M : List ByteArray) (s : ByteArray) : List ByteArray := if varB s = true ∧ hasB M s = false then M ++ [s] else M
def varsOf (xs : List ByteArray) : List ByteArray := xs.foldl addV []
theorem varsOf_next (xs : List ByteArray) (k : Nat) (s : ByteArray) (h : xs[k]? = some s) : varsOf (xs.take (k + 1)) = addV (varsOf (xs.take k)) s := by
  unfold varsOf
  rw [take_get xs k s h, List.foldl_append]
  rfl
theorem varsOf_len (xs : List ByteArray) : (varsOf xs).length ≤ xs.length := by
  have : ∀ (xs M : List ByteArray), (xs.foldl addV M).length ≤ M.length + xs.length := by
    intro xs
    induction xs with
    | nil => intro M; simp
    | cons a r ih =>
      intro M
      have h := ih (addV M a)
      have h2 : (addV M a).length ≤ M.length + 1 := by unfold addV; split <;> simp
      simp only [List.foldl_cons, List.length_cons]
      omega
  have := this xs []
  simpa [varsOf] using this
/-- What the set of the variables seen so far reads as. -/
def Dof (M : List ByteArray) : DataW Unit := M.foldl (fun D s => D.put (.string s.data.toList) (.lit (.bool true))) (.map [])
theorem Dof_snoc (M : List ByteArray) (s : ByteArray) : Dof (M ++ [s]) = (Dof M).put (.string s.data.toList) (.lit (.bool true)) := by simp [Dof]
theorem law : Keyed Tryz.prog 9 := string_keyed Tryz.underlying9
theorem isKey (s : ByteArray) (hs : s.size ≤ maxLen) : WideAt.IsKeyLit (.string s.data.toList) := law.key (keyOf_string_mk Tryz.underlying9 hs)
theorem at_fold (s : ByteArray) : ∀ (M : List ByteArray) (D : DataW Unit), IsMap D → (∀ x ∈ M, x.size ≤ maxLen) → (M.foldl (fun D s => D.put (.string s.data.toList) (.lit (.bool true))) D).atKey (.string s.data.toList) (.lit (.bool false)) = if hasB M s = true then .lit (.bool true) else D.atKey (.string s.data.toList) (.lit (.bool false))
  | [], D, _, _ => rfl
  | a :: M, D, hD, hz => by
    rw [List.foldl_cons, at_fold s M _ (hD.put _ _) (fun x hx => hz x (by simp [hx]))]
    unfold hasB
    rw [List.any_cons]
    by_cases h : M.any (fun x => x.data.toList == s.data.toList) = true
    · rw [if_pos h, if_pos (by rw [h, Bool.or_true])]
    · rw [if_neg h]
      have h' : (M.any fun x => x.data.toList == s.data.toList) = false := by simpa using h
      by_cases ha : a.data.toList = s.data.toList
      · rw [if_pos (by rw [beq_iff_eq.2 ha, Bool.true_or]), ha]
        have hk := isKey a (hz a (by simp))
        rw [ha] at hk
        exact atKey_put_same hD hk _ _
      · rw [if_neg (by rw [h', beq_eq_false_iff_ne.2 ha]; simp)]
        exact atKey_put_other (by intro e; injection e with e; exact ha e.symm) _ _
theorem at_Dof (M : List ByteArray) (s : ByteArray) (hz : ∀ x ∈ M, x.size ≤ maxLen) : (Dof M).atKey (.string s.data.toList) (.lit (.bool false)) = .lit (.bool (hasB M s)) := by
  unfold Dof
  rw [at_fold s M _ isMap_empty hz]
  cases h : hasB M s
  · rw [if_neg (by simp)]; rfl
  · rw [if_pos rfl]
theorem zeroE (w : World) : (zeroValue 4).run Tryz.prog w = .ok (.bool false) w := by kernel_rfl
set_option maxRecDepth 100000 in
theorem look_bool {w : World} {b n : Nat} {M : List ByteArray} (h : w.ownsMap Tryz.prog 9 (plainElem Tryz.prog 4) b n (Dof M)) (hz : ∀ x ∈ M, x.size ≤ maxLen) (s : ByteArray) (hs : s.size ≤ maxLen) :
    (Instr.lookup 92 (.map (some b)) (.string s) false).run Tryz.prog w = .ok (.bool (hasB M s)) w := by
  obtain ⟨v, ps, hrun, hv⟩ := h.lookup law Tryz.underlying92 (zeroE w) (plainElem_bool (H := Unit) Tryz.underlying4 false) (keyOf_string_mk Tryz.underlying9 hs)
  rw [at_Dof M s hz] at hv
  unfold plainElem at hv
  rw [Tryz.underlying4] at hv
  cases v <;> simp at hv
  obtain ⟨hv, _⟩ := hv
  rw [hrun, hv]
theorem names_ok {ok : Nat → Prop} {w : World} {l : List Tm} {v : Value} (h : SlIn ok w l v) : ∀ x ∈ leavesL l, x.size ≤ maxLen := by
  induction h with
  | mk p c l V b o hp hn hc hm h1 h2 ih =>
    intro x hx
    have key : ∀ (l' : List Tm), (∀ t : Tm, t ∈ l' → ∃ i : Nat, l[i]? = some t) → ∀ x ∈ leavesL l', x.size ≤ maxLen := by
      intro l'
      induction l' with
      | nil => intro _ x hx; simp [leavesL] at hx
      | cons a r ihr =>
        intro hl x hx
        simp only [leavesL] at hx
        rcases List.mem_append.1 hx with hx | hx
        · obtain ⟨i, hi⟩ := hl a (by simp)
          rw [leavesT_arg] at hx
          split at hx
          · obtain rfl := List.mem_singleton.1 hx
            exact (h1 i a hi).2.2
          · exact ih i a hi x hx
        · exact ihr (fun t ht => hl t (by simp [ht])) x hx
    exact key l (fun t ht => List.mem_iff_getElem?.1 ht) x hx
end TermE
end Go.Proofs.YtaenalpckloikaaGreatDoor
/- Vars and Ground of the code. Condition: at most a million parts. -/
namespace Go.Proofs.YtaenalpckloikaaGreatDoor
open Go Go.RowKit Go.Maps Go.WideMaps
namespace TermF
open LexM TermM TermI Kit TermN TermU TermL TermC TermE
/-- What Vars leaves. -/
def Vrs (ys : List ByteArray) (w : World) (e : Ending) (w' : World) : Prop :=
  ∃ (v' : Value) (base : Nat), e = .returned v' ∧ w'.ownsRow base 9 1 v' ys.length (strs ys) ∧ w.heap.size ≤ base ∧ Below w.heap.size w w'
theorem own_mono {w : World} {base base' : Nat} {e : TypeId} {size n : Nat} {v : Value} {xs : List Value} (h : w.ownsRow base e size v n xs) (hb : base' ≤ base) : w.ownsRow base' e size v n xs := by
  refine ⟨h.1, ?_⟩
  rcases h.2 with h | ⟨g, cap, cur, e1, e2, e3⟩
  · exact Or.inl h
  · exact Or.inr ⟨g, cap, cur, e1, by omega, e3⟩
theorem strs_get (xs : List ByteArray) (k : Nat) (s : ByteArray) (h : xs[k]? = some s) : (strs xs)[k]? = some (.string s) := by
  unfold strs; rw [List.getElem?_map, h]; rfl
/-- An element of a row of strings. -/
theorem row_str {w : World} {base : Nat} {v : Value} {xs : List ByteArray} (h : w.ownsRow base 9 1 v xs.length (strs xs)) {k : Nat} {s : ByteArray} (hk : xs[k]? = some s) : ∃ g cap, v = .slice (some ⟨g, 0, none⟩) xs.length cap ∧ w.cell? ⟨g, k, none⟩ = some (.string s) ∧ base ≤ g ∧ g < w.heap.size := by
  have hlt := (List.getElem?_eq_some_iff.1 hk).1
  have hl := h.lt
  rcases h.2 with ⟨_, e⟩ | ⟨g, cap, cur, rfl, hg, _⟩
  · omega
  · exact ⟨g, cap, rfl, (h.cellAt k (by omega)).trans (strs_get xs k s hk), hg, (hl g rfl).2⟩
theorem row_form {w : World} {base : Nat} {v : Value} {n : Nat} {xs : List Value} (h : w.ownsRow base 9 1 v n xs) : ∃ a c, v = .slice a n c := by
  rcases h.2 with ⟨e, hz⟩ | ⟨g, cap, cur, e, _⟩
  · exact ⟨none, 0, by rw [e, hz]⟩
  · exact ⟨_, cap, e⟩
theorem own_below {w w' : World} {base : Nat} {e : TypeId} {size n : Nat} {v : Value} {xs : List Value} (h : w.ownsRow base e size v n xs) (hb : Below w.heap.size w w') : w'.ownsRow base e size v n xs := by
  have hl := h.lt
  refine ⟨h.1, ?_⟩
  rcases h.2 with h | ⟨g, cap, cur, e1, e2, e3, e4⟩
  · exact Or.inl h
  · exact Or.inr ⟨g, cap, cur, e1, e2, (hb.block g (hl g (by rw [e1]; rfl)).2).trans e3, e4⟩
set_option maxRecDepth 100000 in
set_option maxHeartbeats 3200000 in
theorem vars_any (l : List Tm) (B : Nat) (w : World) (sv : Value) (hB : B ≤ w.heap.size) (h : SlIn (· < B) w l sv) (hz : sizeL l ≤ 1000000) :
    Calls Tryz.prog 54 #[sv] w (Vrs (varsOf (leavesL l)) w) := by
  obtain ⟨i0, hi, hz0, hz1, hz2⟩ := info_parts Tryz.info9s
  have NS := Lib.hid (names_ok h)
  have LL := leavesL_len l
  have CL := Lib.hid (lvs_any l B (w.alloc (.map #[] 0)) (w.heap.size + 1) (.slice none 0 0) sv [] ⟨rfl, Or.inl ⟨rfl, rfl⟩⟩ (by simp) (by omega) (h.gr (Gr.alloc _ _) hB) (by simp; omega))
  have hmm := @run_makeMap Tryz.prog
  have MO : Hid ((w.alloc (.map #[] 0)).ownsMap Tryz.prog 9 (plainElem (H := Unit) Tryz.prog 4) w.heap.size 0 (Dof [])) := Lib.hid (World.ownsMap_made _ _ _ _)
  rw [List.nil_append] at CL
  have VL := varsOf_len (leavesL l)
  have VN : Hid (∀ k s, (leavesL l)[k]? = some s → varsOf ((leavesL l).take (k + 1)) = addV (varsOf ((leavesL l).take k)) s) := Lib.hid (fun k s h => varsOf_next _ k s h)
  have VF : Hid (varsOf ((leavesL l).take (leavesL l).length) = varsOf (leavesL l)) := Lib.hid (by rw [List.take_length])
  have VK : Hid (∀ k, (varsOf ((leavesL l).take k)).length ≤ k) := Lib.hid (fun k => by
    have h1 := varsOf_len ((leavesL l).take k)
    have h2 := List.length_take_le k (leavesL l)
    omega)
  have VZ : Hid (∀ k, ∀ x ∈ varsOf ((leavesL l).take k), x.size ≤ maxLen) := Lib.hid (by
    have gen : ∀ (xs M : List ByteArray), (∀ x ∈ M, x.size ≤ maxLen) → (∀ x ∈ xs, x.size ≤ maxLen) → ∀ x ∈ xs.foldl addV M, x.size ≤ maxLen := by
      intro xs
      induction xs with
      | nil => intro M hM _; exact hM
      | cons a r ih =>
        intro M hM hx
        refine ih (addV M a) ?_ (fun x h => hx x (by simp [h]))
        intro x h
        unfold addV at h
        split at h
        · rcases List.mem_append.1 h with h | h
          · exact hM x h
          · obtain rfl := List.mem_singleton.1 h; exact hx _ (by simp)
        · exact hM x h
    intro k x hx
    exact gen _ [] (fun x h => by simp at h) (fun x h => NS.out x (List.mem_of_mem_take h)) x hx)
  have hnl : (leavesL l).length ≤ 1000000 := by omega
  obtain ⟨p0, c0, rfl⟩ := h.form
  generalize leavesL l = xs at *
  generalize l.length = ml at *
  clear h LL VL
  generalize hxl : xs.length = n at *
  have HN := Lib.hid hxl
  clear hxl
  go_enter Tryz.func54, Tryz.ntmps54
  go_wp2_with fail
  refine CL.out.mono ?_
  rintro e w2 ⟨v9, rfl, ho, hd⟩
  rw [HN.out] at ho
  have D2 := Lib.hid ((below_alloc w (.map #[] 0)).trans (hd.mono (by omega)))
  have M2 := Lib.hid (MO.out.kept (row := none) ⟨hd.os, hd.tape, hd.output, hd.size, fun i hi _ => hd.block i (by simp at hi; omega)⟩ (by simp))
  have O2 := Lib.hid ho
  obtain ⟨a9, c9, rfl⟩ := row_form ho
  have hs2 : w.heap.size < w2.heap.size := by have := hd.size; simp at this; omega
  clear ho hd MO CL hmm
  go_wp2_with fail
  go_loopw [3, 11] (fun v i wr => ∃ k : Nat, k ≤ n ∧ i = .int .i64 k ∧ Hid (wr.ownsRow w2.heap.size 9 1 v (varsOf (xs.take k)).length (strs (varsOf (xs.take k)))) ∧ Hid (wr.ownsMap Tryz.prog 9 (plainElem (H := Unit) Tryz.prog 4) w.heap.size k (Dof (varsOf (xs.take k)))) ∧ Hid (wr.ownsRow (w.heap.size + 1) 9 1 (.slice a9 n c9) n (strs xs)) ∧ Hid (Below w.heap.size w wr) ∧ w2.heap.size ≤ wr.heap.size) (fun _ i _ => n - (intOf i).toNat)
  case atStart => exact ⟨0, Nat.zero_le _, rfl, Lib.hid ⟨rfl, Or.inl ⟨rfl, rfl⟩⟩, M2, O2, D2, Nat.le_refl _⟩
  case round =>
    obtain ⟨k, hk, rfl, hV, hM, hO, hD, hsz⟩ := hrel
    by_cases hlt : k < n
    · obtain ⟨s, hs⟩ : ∃ s, xs[k]? = some s := ⟨xs[k]'(by rw [HN.out]; exact hlt), by simp⟩
      obtain ⟨g, cap, hav, hcell, hgb, hgl⟩ := row_str (xs := xs) (by rw [HN.out]; exact hO.out) hs
      rw [HN.out] at hav
      injection hav with hav1 _ hav2
      subst hav1 hav2
      have hsl : s.size ≤ maxLen := NS.out s (List.mem_of_getElem? hs)
      have LK := look_bool hM.out (VZ.out k) s hsl
      have KV := Lib.hid (fun w => var_any s w hsl)
      have hN := VN.out k s hs
      have hvk := VK.out k
      have HK : keyOf Tryz.prog 9 (.string s) = some (.string s.data.toList) := keyOf_string_mk Tryz.underlying9 hsl
      have A0 : k < maxLen := by unfold maxLen; omega
      unfold addV at hN
      have hvb : varL s.data.toList = varB s := rfl
      rw [hvb] at KV
      clear hs hvb
      cases hb : varB s
      · rw [hb, if_neg (by simp)] at hN
        have HNN := Lib.hid hN
        rw [hb] at KV
        clear hN LK
        go_wp2_with (go_at_call 39; refine (KV.out _).mono ?_; rintro e w' ⟨rfl, rfl⟩)
        go_roundw
        case rel => exact ⟨k + 1, by omega, by go_num, by rw [HNN.out]; exact hV, Lib.hid (by rw [HNN.out]; exact hM.out.mono (by omega)), hO, hD, hsz⟩
        case measure => simp [intOf]; omega
      · rw [hb] at hN KV
        cases hh : hasB (varsOf (xs.take k)) s
        · rw [hh, if_pos ⟨rfl, rfl⟩] at hN
          have HNN := Lib.hid hN
          rw [hh] at LK
          have D0 := Lib.hid (Dof_snoc (varsOf (xs.take k)) s)
          have A1 : (varsOf (xs.take k)).length + 1 ≤ maxLen := by unfold maxLen; omega
          have A2 : ((varsOf (xs.take k)).length + 1) * 16 ≤ 140737488355328 := by omega
          have hV0 := hV
          clear hN hvk
          generalize varsOf (xs.take k) = M at *
          go_upto_region 8 with (first | (go_at_call 39; refine (KV.out _).mono ?_; rintro e w' ⟨rfl, rfl⟩) | (at_mapUpdate; refine wpList_mapUpdate_own _ rfl _ _ _ 92 rfl 9 4 law Tryz.underlying92 _ w.heap.size k _ rfl hM.out A0 _ _ _ rfl rfl HK _ [] (plainElem_bool (H := Unit) Tryz.underlying4 true) ?_; intro w3 hown3 hgrow3))
          have M3 := Lib.hid hown3
          have V3 := Lib.hid (hV0.out.kept hgrow3 (Or.inr (fun e => by have := (hV0.out.lt _ e).1; omega)))
          have O3 := Lib.hid (hO.out.kept hgrow3 (Or.inr (fun e => by have := (hO.out.lt _ e).1; omega)))
          have D3 := Lib.hid (hD.out.grown hgrow3 hD.out.size (fun j hj => by cases hj; exact Nat.le_refl _))
          have hsz3 : w2.heap.size ≤ w3.heap.size := Nat.le_trans hsz hgrow3.size
          have A3 : w2.heap.size ≤ (w3.alloc (.cells #[.string s] 9)).heap.size := by simp; omega
          clear hown3 hgrow3
          go_wp2_with (at_builtin; refine wpList_append_own _ rfl _ _ 73 rfl w2.heap.size 9 i0 (.string ⟨#[]⟩) 1 16 Tryz.underlying73 hi hz0 hz1 hz2 rfl (by decide) _ M.length (strs M) rfl (V3.out.alloc _) ⟨w3.heap.size, 0, none⟩ 1 1 [.string s] rfl rfl (World.news_of_block (heap_alloc_new w3 _)) (one1 _) A1 A2 A3 ?_; intro v4 w4 hown4 hgrow4 _)
          have M4 := Lib.hid ((M3.out.alloc (.cells #[.string s] 9)).kept hgrow4 (fun e => by have := (V3.out.lt _ e.symm).1; omega))
          have V4 : Hid (w4.ownsRow w2.heap.size 9 1 v4 (M ++ [s]).length (strs (M ++ [s]))) := Lib.hid (by
            unfold strs at hown4 ⊢
            rw [List.map_append, List.length_append]
            exact hown4)
          have O4 := Lib.hid ((O3.out.alloc (.cells #[.string s] 9)).kept hgrow4 (Or.inr (fun e => by
            have h1 := (O2.out.lt _ rfl).2
            have h2 := (V3.out.lt _ e.symm).1
            omega)))
          have D4 := Lib.hid ((D3.out.alloc (by exact D3.out.size) (.cells #[.string s] 9)).grown hgrow4 (by have := D3.out.size; simp; omega) (fun j hj => by have := (V3.out.lt j hj).1; omega))
          have hsz4 : w2.heap.size ≤ w4.heap.size := by have := hgrow4.size; simp at this; omega
          clear hown4 hgrow4
          go_wp2_with fail
          go_roundw
          case rel => exact ⟨k + 1, by omega, by go_num, by rw [HNN.out]; exact V4, Lib.hid (by rw [HNN.out, D0.out]; exact M4.out), O4, D4, hsz4⟩
          case measure => simp [intOf]; omega
        · rw [hh, if_neg (by simp)] at hN
          have HNN := Lib.hid hN
          rw [hh] at LK
          clear hN
          go_wp2_with (go_at_call 39; refine (KV.out _).mono ?_; rintro e w' ⟨rfl, rfl⟩)
          go_roundw
          case rel => exact ⟨k + 1, by omega, by go_num, by rw [HNN.out]; exact hV, Lib.hid (by rw [HNN.out]; exact hM.out.mono (by omega)), hO, hD, hsz⟩
          case measure => simp [intOf]; omega
    · obtain rfl : k = n := by omega
      have hV2 := hV.out
      rw [VF.out] at hV2
      have HV2 := Lib.hid hV2
      clear hV2
      go_wp2_with fail
      go_ret
      exact ⟨_, _, rfl, HV2.out, by omega, hD.out⟩
end TermF
end Go.Proofs.YtaenalpckloikaaGreatDoor
