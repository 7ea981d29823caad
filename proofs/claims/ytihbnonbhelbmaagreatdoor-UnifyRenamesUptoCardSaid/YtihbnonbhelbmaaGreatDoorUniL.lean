/- The code's variable, sameHead, bind and extend. Conditions: the substitution's names ascend and are at most 64. -/
import Derived.Test.YtihbnonbhelbmaaGreatDoorUniJ
import Derived.Test.YtihbnonbhelbmaaGreatDoorUniO
import Derived.Test.YtihbnonbhelbmaaGreatDoorTermR
import Derived.OwnWalk
import Derived.Laws.OwnMore
import Derived.Deep.DeepCutAuto
import Derived.Deep.RegionWith
namespace Go.Proofs.YtihbnonbhelbmaaGreatDoor
open Go Go.RowKit
namespace UniL
open LexM TermM TermI Kit TermN TermU UniK UniM UniA UniC UniD UniE UniG UniJ UniO
set_option maxRecDepth 100000 in
theorem cvar_t (t : Tm) (p : Option Addr) (c : Nat) (w : World) (hn : t.nm.size ≤ maxLen) :
    Calls Tryz.prog 80 #[.agg #[.string t.nm, .slice p t.args.length c]] w fun e w' => e = .returned (.bool (isV t)) ∧ Gr w w' := by
  have KV := Lib.hid (fun w' => TermC.var_any t.nm w' hn)
  have vb_ : Hid (varL t.nm.data.toList = varB t.nm) := rfl
  rw [vb_.out] at KV
  have E : isV t = (t.args.isEmpty && varB t.nm) := rfl
  obtain ⟨n, l⟩ := t
  dsimp only [Tm.nm, Tm.args] at *
  generalize isV (.mk n l) = R at *
  generalize varB n = vb at *
  cases l with
  | nil =>
    simp only [List.isEmpty_nil, Bool.true_and] at E
    subst E
    go_enter Tryz.func80, Tryz.ntmps80
    go_wp2_with fail
    refine (KV.out _).mono ?_
    rintro e w' ⟨rfl, rfl⟩
    go_wp2_with fail
    go_ret
    exact ⟨rfl, Gr.alloc _ _⟩
  | cons a l =>
    simp only [List.isEmpty_cons, Bool.false_and] at E
    subst E
    have h0 : ((((a :: l).length : Nat) : Int) == 0) = false := by rw [beq_eq_false_iff_ne]; simp; omega
    generalize (a :: l).length = m at *
    go_enter Tryz.func80, Tryz.ntmps80
    go_wp2_with fail
    go_ret
    exact ⟨rfl, Gr.alloc _ _⟩
theorem head_any (n m : ByteArray) (p q : Option Addr) (a c b d : Nat) (w : World) :
    Calls Tryz.prog 82 #[.agg #[.string n, .slice p a c], .agg #[.string m, .slice q b d]] w fun e w' => e = .returned (.bool (eqB n m && decide (a = b))) ∧ Gr w w' := by
  obtain ⟨z, hz⟩ : ∃ z, (n.toList == m.toList) = z := ⟨_, rfl⟩
  have HZ : eqB n m = z := by unfold eqB; rw [← hz, ByteArray.toList_eq, ByteArray.toList_eq]
  rw [HZ]
  obtain ⟨y, hy⟩ : ∃ y, ((a : Int) == (b : Int)) = y := ⟨_, rfl⟩
  have HY : decide (a = b) = y := by
    rw [← hy]
    by_cases h : a = b
    · subst h; simp
    · have : ¬ ((a : Int) = (b : Int)) := by omega
      simp [h, this]
  rw [HY]
  clear HZ HY
  cases z
  · go_enter Tryz.func82, Tryz.ntmps82
    go_wp2_with fail
    go_ret
    exact ⟨rfl, (Gr.alloc _ _).more _⟩
  · go_enter Tryz.func82, Tryz.ntmps82
    go_wp2_with fail
    go_ret
    exact ⟨rfl, (Gr.alloc _ _).more _⟩
theorem sin_clip {ok : Nat → Prop} {w : World} {s : List Bd} {p : Option Addr} {c : Nat} (h : SIn ok w s (.slice p s.length c)) : SIn ok w s (.slice p s.length s.length) := by
  obtain ⟨L, rfl, p', c', e, h1, h2, h3, h4⟩ := h
  have hll : (L.map (·.1)).length = L.length := by simp
  rw [hll] at e ⊢
  cases e
  exact ⟨L, rfl, p, L.length, rfl, Nat.le_refl _, Nat.le_trans h1 h2, h3, h4⟩
/-- A substitution, or none. -/
def BndR (o : Option (List Bd)) (w : World) (e : Ending) (w' : World) : Prop :=
  ∃ (v : Value) (f : Bool), e = .returned (.tuple #[v, .bool f]) ∧ (f = true → ∃ s', o = some s' ∧ SIn (· < w'.heap.size) w' s' v) ∧ (f = false → o = none) ∧ Below w.heap.size w w'
/-- A substitution, or the nil list. -/
def MtR (o : Option (List Bd)) (w : World) (e : Ending) (w' : World) : Prop :=
  ∃ (v : Value) (f : Bool), e = .returned (.tuple #[v, .bool f]) ∧ (f = true → ∃ s', o = some s' ∧ SIn (· < w'.heap.size) w' s' v) ∧ (f = false → o = none ∧ v = .slice none 0 0) ∧ Below w.heap.size w w'
set_option maxRecDepth 100000 in
set_option maxHeartbeats 6400000 in
theorem bind_any (s : List Bd) (v : ByteArray) (t : Tm) (hS : Srt s) (hl : s.length ≤ 64) (B : Nat) (w : World) (sv tv : Value) (hB : B ≤ w.heap.size) (hs : SIn (· < B) w s sv) (h : SlIn (· < B) w t.args tv) (hn : t.nm.size ≤ maxLen) (hv : v.size ≤ maxLen) :
    Calls Tryz.prog 81 #[sv, .string v, .agg #[.string t.nm, tv]] w (BndR (bindP true s v t) w) := by
  obtain ⟨p, c, rfl⟩ := h.form
  obtain ⟨W1, hW1⟩ : ∃ W1, W1 = w.alloc (.cells #[.string t.nm, .slice p t.args.length c] 27) := ⟨_, rfl⟩
  have G1 : Gr w W1 := by rw [hW1]; exact Gr.alloc _ _
  have H1 : Hid (Has W1 w.heap.size #[.string t.nm, .slice p t.args.length c]) := Lib.hid (by rw [hW1]; exact Has.new _ _ _)
  have CF := Lib.hid (find_any s v hS (by omega) B W1 sv (Nat.le_trans hB G1.size) (hs.gr G1 hB))
  have HSI := Lib.hid (fun w' (k : Below w.heap.size w w') => hs.deep k hB)
  have HTI := Lib.hid (fun w' (k : Below w.heap.size w w') => h.deep k hB)
  obtain ⟨ps, cs, rfl, hc, hm, hR⟩ := SIn.row hs
  have HR := Lib.hid hR
  have HB := Lib.hid hB
  have HS := Lib.hid hS
  have GG := Lib.hid G1
  have HN := Lib.hid hn
  have HV := Lib.hid hv
  have hb64 : s.length ≤ 64 := hl
  unfold maxLen at hm
  generalize hln : s.length = n at *
  have HLN := Lib.hid hln
  clear hs h hR hB hn hv hS G1 hln
  unfold FoundS at CF
  unfold BndR
  go_enter Tryz.func81, Tryz.ntmps81
  go_upto_region 1 with fail
  rw [← hW1]
  clear hW1
  go_wp2_with fail
  refine CF.out.mono ?_
  rintro e w2 ⟨⟨i, f, hi, rfl, h1, h2, h3⟩, g2⟩
  have D2 := Lib.hid (next0 GG.out.1 g2.1)
  have H2 := Lib.hid (H1.out.step0 g2.1)
  clear g2 H1 CF
  obtain ⟨y1, y2, y3, y4, y5⟩ := H2.out.two
  cases f
  · have HN3 := Lib.hid (show lookS s v = none from look_not HS.out h1 h2 (fun ⟨y, a, b⟩ => by have := h3.2 ⟨y, a, b⟩; cases this))
    have PA := Lib.hid (put_at v t s i hi h1 h2 HN3.out)
    clear h1 h2 h3
    by_cases h64 : n = 64
    · have hb : ((n : Int) == 64) = true := by subst h64; rfl
      have EO : Hid (bindP true s v t = none) := Lib.hid (by unfold bindP; rw [HN3.out]; simp [HLN.out, h64])
      clear PA
      clear h64
      go_wp2_with fail
      refine bodyPost_ret (v := .tuple #[.slice none 0 0, .bool false]) (by simp [results, Tryz.results81, go_sem]) rfl ?_
      exact ⟨_, false, rfl, (fun h => by cases h), (fun _ => EO.out), D2.out⟩
    · have hb : ((n : Int) == 64) = false := by rw [beq_eq_false_iff_ne]; omega
      have EO : Hid (bindP true s v t = some (putS (v, t) s)) := Lib.hid (by unfold bindP; rw [HN3.out]; simp [HLN.out, h64])
      have CI := Lib.hid (fun w' vb (k : Below w.heap.size w w') (hh : Has w' vb (KB.cells ((v, t), .slice p t.args.length c)).toArray) => by
        have := insert_any s (v, t) (.slice p t.args.length c) i vb ps w' hi (by rw [HLN.out]; omega) (by have := HSI.out w' k; rw [← HLN.out] at this; exact (sin_clip this).wide fun b hb => by have := HB.out; have := k.size; omega) ⟨(HTI.out w' k).weaken fun b hb => by have := HB.out; have := k.size; omega, HN.out, HV.out⟩ hh
        rw [PA.out, HLN.out] at this
        exact this)
      have CC := Lib.hid (fun w' => clip_any ps n cs w' hc (by unfold maxLen; exact hm))
      clear PA h64
      simp only [KB] at CI
      unfold InsR at CI
      go_wp2_with fail
      refine (CC.out _).mono ?_
      rintro e w3 ⟨rfl, rfl⟩
      go_wp2_with fail
      refine (CI.out (w3.alloc (.cells #[.string v, .string t.nm, .slice p t.args.length c] 52)) w3.heap.size (next0 D2.out (below_alloc _ _)) (Has.new _ _ _)).mono ?_
      rintro e w4 ⟨v4, rfl, hS4, hb4⟩
      have D4 := Lib.hid (next0 (next0 D2.out (below_alloc _ _)) hb4)
      have S4 := Lib.hid hS4
      clear hS4 hb4 CI CC
      go_wp2_with fail
      refine bodyPost_ret (v := .tuple #[v4, .bool true]) (by simp [results, Tryz.results81, go_sem]) rfl ?_
      exact ⟨_, true, rfl, (fun _ => ⟨_, EO.out, S4.out⟩), (fun h => by cases h), D4.out⟩
  · obtain ⟨y, hy, hy0⟩ := h3.1 rfl
    have HF := Lib.hid (look_found HS.out hy hy0)
    have hin : i < n := by rw [← HLN.out]; exact (List.getElem?_eq_some_iff.1 hy).1
    obtain ⟨x, b, o, q, d, hx, rfl, hb, c1, c2, c3, hsx, hxn, hxv⟩ := (RowS.deep HR.out D2.out HB.out) i (by rw [HLN.out]; exact hin)
    rw [hy] at hx
    cases hx
    have CC := Lib.hid (fun w' (k : Below w2.heap.size w2 w') => TermR.cmp_any y.2 B w' (.slice q y.2.args.length d) t (.slice p t.args.length c) (Nat.le_trans HB.out (Nat.le_trans D2.out.size k.size)) hxn HN.out (hsx.deep (B' := w2.heap.size) k (Nat.le_trans HB.out D2.out.size)) (HTI.out w' (next0 D2.out k)))
    have EO : Hid (bindP true s v t = if cmpT y.2 t = 0 then some s else none) := Lib.hid (by unfold bindP; rw [HF.out])
    have S2 := Lib.hid (fun w' (k : Below w2.heap.size w2 w') => (HSI.out w' (next0 D2.out k)).wide (ok' := (· < w'.heap.size)) fun b hb => by have := HB.out; have := D2.out.size; have := k.size; omega)
    clear hsx hxn hxv hy hy0 HSI HTI h1 h2 h3 HF hi
    obtain ⟨z, hz⟩ : ∃ z, (cmpT y.2 t == 0) = z := ⟨_, rfl⟩
    have EZ : Hid (bindP true s v t = if z = true then some s else none) := Lib.hid (by rw [EO.out, ← hz]; simp)
    clear EO
    generalize y.2.nm = yn at *
    generalize y.2.args.length = ya at *
    generalize cmpT y.2 t = cc at *
    go_wp2_with fail
    go_region_with (first
      | (go_at_call 60; (with_reducible refine (CC.out _ (by first | exact Below.refl _ _ | exact (Below.refl _ _).drew | exact below_drewN (Below.refl _ _) _)).mono ?_); rintro e w3 ⟨rfl, g3⟩; have D3 : Hid (Below w2.heap.size w2 w3) := Lib.hid (by first | exact g3.1 | exact next0 (Below.refl _ _).drew g3.1 | exact next0 (below_drewN (Below.refl _ _) _) g3.1); clear g3))
    all_goals
      go_wp2_with fail
      refine bodyPost_ret (v := .tuple #[.slice (some ⟨b, o, none⟩) n cs, .bool z]) (by simp [results, Tryz.results81, go_sem]) rfl ?_
      cases z
      · exact ⟨_, false, rfl, (fun h => by cases h), (fun _ => EZ.out), next0 D2.out D3.out⟩
      · exact ⟨_, true, rfl, (fun _ => ⟨s, EZ.out, S2.out _ D3.out⟩), (fun h => by cases h), next0 D2.out D3.out⟩
set_option maxRecDepth 100000 in
set_option maxHeartbeats 6400000 in
theorem ext_any (p : Tm) : ∀ (t : Tm) (s : List Bd), Srt s → s.length ≤ 64 → ∀ (B : Nat) (w : World) (sv pv tv : Value), B ≤ w.heap.size → SIn (· < B) w s sv → SlIn (· < B) w p.args pv → SlIn (· < B) w t.args tv → p.nm.size ≤ maxLen → t.nm.size ≤ maxLen →
    Calls Tryz.prog 50 #[sv, .agg #[.string p.nm, pv], .agg #[.string t.nm, tv]] w (BndR (extP true p t s) w) := by
  induction p using Tm.ind with
  | h n l ih =>
    rintro ⟨n2, r⟩ s hS hl B w sv pv tv hB hs hp ht hpn htn
    dsimp only [Tm.args, Tm.nm] at hp hpn ht htn ⊢
    obtain ⟨p1, c1, rfl, _, hlc, hcm, hPR⟩ := hp.row
    obtain ⟨p2, c2, rfl, _, _, _, hTR⟩ := ht.row
    have h63 : l.length ≤ 9223372036854775807 := by unfold maxLen at hcm; omega
    clear hlc hcm
    obtain ⟨W2, hW2⟩ : ∃ W2, W2 = (w.alloc (.cells #[.string n, .slice p1 l.length c1] 27)).alloc (.cells #[.string n2, .slice p2 r.length c2] 27) := ⟨_, rfl⟩
    have G2 : Gr w W2 := by rw [hW2]; exact (Gr.alloc _ _).more _
    have H2 : Hid (Has W2 w.heap.size #[.string n, .slice p1 l.length c1]) := Lib.hid (by rw [hW2]; exact (Has.new w _ _).alloc _)
    have T2 : Hid (Has W2 (w.heap.size + 1) #[.string n2, .slice p2 r.length c2]) := Lib.hid (by rw [hW2]; exact Has.new1 w _ _ _)
    have CV := Lib.hid (fun w' => cvar_t (.mk n l) p1 c1 w' hpn)
    have CH := Lib.hid (fun w' => head_any n n2 p1 p2 l.length c1 r.length c2 w')
    have CB := Lib.hid (fun w' (k : Below w.heap.size w w') => bind_any s n (.mk n2 r) hS hl B w' sv _ (Nat.le_trans hB k.size) (hs.deep k hB) (ht.deep k hB) htn hpn)
    have IH : Hid (∀ x ∈ l, ∀ (y : Tm) (s' : List Bd), Srt s' → s'.length ≤ 64 → ∀ (w' : World) (sv' v1 v2 : Value), SIn (· < w'.heap.size) w' s' sv' → SlIn (· < w'.heap.size) w' x.args v1 → SlIn (· < w'.heap.size) w' y.args v2 → x.nm.size ≤ maxLen → y.nm.size ≤ maxLen → Calls Tryz.prog 50 #[sv', .agg #[.string x.nm, v1], .agg #[.string y.nm, v2]] w' (BndR (extP true x y s') w')) :=
      Lib.hid (fun x hx y s' h1 h2 w' sv' v1 v2 h3 h4 h5 h6 h7 => ih x hx y s' h1 h2 w'.heap.size w' sv' v1 v2 (Nat.le_refl _) h3 h4 h5 h6 h7)
    have KP := Lib.hid (fun (x : Tm) (y : Tm) s' s'' (h : Srt s') (e : extP true x y s' = some s'') => ext_keeps true x y s' s'' h e)
    have GG := Lib.hid G2
    have HB := Lib.hid hB
    have HPR := Lib.hid hPR
    have HTR := Lib.hid hTR
    have SS := Lib.hid (fun w' (k : Below w.heap.size w w') => (hs.deep k hB).wide (ok' := (· < w'.heap.size)) fun b hb => by have := k.size; omega)
    have HSL := Lib.hid (And.intro hS hl)
    have EP : Hid (extP true (.mk n l) (.mk n2 r) s = if isV (.mk n l) then bindP true s n (.mk n2 r) else if eqB n n2 && decide (l.length = r.length) then extL true l r s else none) := Lib.hid (by rw [extP]; rfl)
    clear hs hp ht hpn htn hPR hTR hS hl ih hB G2
    obtain ⟨y1, y2, y3, y4, y5⟩ := H2.out.two
    obtain ⟨z1, z2, z3, z4, z5⟩ := T2.out.two
    obtain ⟨vb, hvb⟩ : ∃ vb, isV (.mk n l) = vb := ⟨_, rfl⟩
    rw [hvb] at EP CV
    generalize hsm : (eqB n n2 && decide (l.length = r.length)) = sm at *
    have SM := Lib.hid hsm
    dsimp only [Tm.nm, Tm.args] at CV CB
    unfold BndR at CB IH
    generalize hla : l.length = a at *
    generalize hlr : r.length = b at *
    have HLA := Lib.hid hla
    have HLR := Lib.hid hlr
    clear hla hlr
    cases vb
    · cases sm
      · have EO : Hid (extP true (.mk n l) (.mk n2 r) s = none) := Lib.hid (by rw [EP.out]; simp)
        clear EP hvb hsm SM IH KP CB
        go_enter Tryz.func50, Tryz.ntmps50
        go_upto_region 1 with fail
        rw [← hW2]
        clear hW2
        go_wp2_with fail
        refine (CV.out _).mono ?_
        rintro e w3 ⟨rfl, g3⟩
        have D3 := Lib.hid (next0 GG.out.1 g3.1)
        clear y1 y2 y3 y4 y5 z1 z2 z3 z4 z5
        obtain ⟨y1, y2, y3, y4, y5⟩ := (H2.out.step0 g3.1).two
        obtain ⟨z1, z2, z3, z4, z5⟩ := (T2.out.step0 g3.1).two
        go_wp2_with fail
        refine (CH.out _).mono ?_
        rintro e w4 ⟨rfl, g4⟩
        have D4 := Lib.hid (next0 D3.out g4.1)
        go_wp2_with fail
        refine bodyPost_ret (v := .tuple #[.slice none 0 0, .bool false]) (by simp [results, Tryz.results50, go_sem]) rfl ?_
        unfold BndR
        exact ⟨_, false, rfl, (fun h => by cases h), (fun _ => EO.out), D4.out⟩
      · have EO : Hid (extP true (.mk n l) (.mk n2 r) s = extL true (l.drop 0) (r.drop 0) s) := Lib.hid (by rw [EP.out]; simp)
        have hab : a = b := by
          have := SM.out
          rw [Bool.and_eq_true, decide_eq_true_eq] at this
          exact this.2
        subst hab
        clear EP hvb hsm SM CB
        go_enter Tryz.func50, Tryz.ntmps50
        go_upto_region 1 with fail
        rw [← hW2]
        clear hW2
        go_wp2_with fail
        refine (CV.out _).mono ?_
        rintro e w3 ⟨rfl, g3⟩
        have D3 := Lib.hid (next0 GG.out.1 g3.1)
        have H3 := Lib.hid (H2.out.step0 g3.1)
        have T3 := Lib.hid (T2.out.step0 g3.1)
        clear y1 y2 y3 y4 y5 z1 z2 z3 z4 z5 g3 H2 T2
        obtain ⟨y1, y2, y3, y4, y5⟩ := H3.out.two
        obtain ⟨z1, z2, z3, z4, z5⟩ := T3.out.two
        go_wp2_with fail
        refine (CH.out _).mono ?_
        rintro e w4 ⟨rfl, g4⟩
        have D4 := Lib.hid (next0 D3.out g4.1)
        have H4 := Lib.hid (H3.out.step0 g4.1)
        have T4 := Lib.hid (T3.out.step0 g4.1)
        clear y1 y2 y3 y4 y5 z1 z2 z3 z4 z5 g4 H3 T3 D3
        obtain ⟨y1, y2, y3, y4, y5⟩ := H4.out.two
        obtain ⟨z1, z2, z3, z4, z5⟩ := T4.out.two
        go_wp2_with fail
        clear y1 y2 y3 y4 y5 z1 z2 z3 z4 z5
        go_loopw [0, 27] (fun v i wr => ∃ (k : Nat) (s' : List Bd), k ≤ a ∧ i = .int .i64 k ∧ Hid (extL true (l.drop 0) (r.drop 0) s = extL true (l.drop k) (r.drop k) s') ∧ Hid (Srt s' ∧ s'.length ≤ 64) ∧ Hid (SIn (· < wr.heap.size) wr s' v) ∧ Hid (Below w4.heap.size w4 wr)) (fun _ i _ => a - (intOf i).toNat)
        case atStart => exact ⟨0, s, Nat.zero_le _, rfl, Lib.hid rfl, HSL, Lib.hid (SS.out _ D4.out), Lib.hid (Below.refl _ _)⟩
        case round =>
          obtain ⟨k, s', hk, rfl, hE, hQ, hI, hD⟩ := hrel
          by_cases hlt : k < a
          · have D5 := Lib.hid (next0 D4.out hD.out)
            obtain ⟨x, b, o, q, d, hx, rfl, hb, e1, e2, hxs, hxn⟩ := (Row.deep HPR.out D5.out HB.out) k (by rw [HLA.out]; exact hlt)
            obtain ⟨y, b2, o2, q2, d2, hy, rfl, hb2, u1, u2, hys, hyn⟩ := (Row.deep HTR.out D5.out HB.out) k (by rw [HLR.out]; exact hlt)
            obtain ⟨z1, z2, z3, z4, z5⟩ := (T4.out.step0 hD.out).two
            have EX := Lib.hid (hE.out.trans (ext_list hx hy s'))
            have CI := Lib.hid (fun w' (g : Below wr.heap.size wr w') => IH.out x (List.mem_of_getElem? hx) y s' hQ.out.1 hQ.out.2 w' _ _ _ ((hI.out.deep g (Nat.le_refl _)).wide fun b hb => Nat.lt_of_lt_of_le hb g.size) ((hxs.deep g (Nat.le_trans HB.out D5.out.size)).weaken fun b hb => by have := HB.out; have := D5.out.size; have := g.size; omega) ((hys.deep g (Nat.le_trans HB.out D5.out.size)).weaken fun b hb => by have := HB.out; have := D5.out.size; have := g.size; omega) hxn hyn)
            have KK := Lib.hid (fun s'' (e : extP true x y s' = some s'') => KP.out x y s' s'' hQ.out.1 e)
            clear hx hy hxs hxn hys hyn hI hE
            generalize extP true x y s' = o9 at *
            generalize x.nm = xn at *
            generalize x.args.length = xa at *
            generalize y.nm = yn at *
            generalize y.args.length = ya at *
            obtain ⟨W5, hW5⟩ : ∃ W5, W5 = wr.alloc (.cells #[.string xn, .slice q xa d] 27) := ⟨_, rfl⟩
            have K5 : Hid (Below wr.heap.size wr W5) := Lib.hid (by rw [hW5]; exact below_alloc _ _)
            obtain ⟨a1, a2, _⟩ := (show Has W5 wr.heap.size #[.string xn, .slice q xa d] by rw [hW5]; exact Has.new _ _ _).two
            have f1 : W5.cell? ⟨b2, o2 + k * 2, none⟩ = some (.string yn) := (K5.out.cell (p := ⟨b2, _, none⟩) (by have := HB.out; have := D5.out.size; show b2 < wr.heap.size; omega)).trans u1
            have f2 : W5.cell? ⟨b2, o2 + k * 2 + 1, none⟩ = some (.slice q2 ya d2) := (K5.out.cell (p := ⟨b2, _, none⟩) (by have := HB.out; have := D5.out.size; show b2 < wr.heap.size; omega)).trans u2
            have f3 : W5.cell? ⟨w.heap.size + 1, 1, none⟩ = some (.slice (some ⟨b2, o2, none⟩) a c2) := (K5.out.cell (p := ⟨w.heap.size + 1, 1, none⟩) (by show w.heap.size + 1 < wr.heap.size; omega)).trans z2
            go_upto_region 9 with fail
            rw [← hW5]
            clear hW5 e1 e2 u1 u2 z1 z2 z3 z4
            go_region_with (first
              | (go_at_call 50; (with_reducible refine (CI.out _ (by first | exact K5.out | exact K5.out.drew | exact below_drewN K5.out _)).mono ?_); rintro e w6 ⟨v6, f, rfl, h1, h2, hb6⟩; have D6 : Hid (Below wr.heap.size wr w6) := Lib.hid (by first | exact next0 K5.out hb6 | exact next0 K5.out.drew hb6 | exact next0 (below_drewN K5.out _) hb6); have HH := Lib.hid (And.intro h1 h2); clear h1 h2 hb6))
            all_goals
              cases f
              · have EF := Lib.hid (EX.out.trans (by rw [HH.out.2 rfl]))
                go_wp2_with fail
                refine bodyPost_ret (v := .tuple #[.slice none 0 0, .bool false]) (by simp [results, Tryz.results50, go_sem]) rfl ?_
                unfold BndR
                exact ⟨_, false, rfl, (fun h => by cases h), (fun _ => EO.out.trans EF.out), next0 D5.out D6.out⟩
              · obtain ⟨s9, hs9, hI9⟩ := HH.out.1 rfl
                have EF := Lib.hid (EX.out.trans (by rw [hs9]))
                have K9 := Lib.hid (KK.out s9 hs9)
                have I9 := Lib.hid hI9
                clear hs9 hI9 HH
                go_wp2_with fail
                go_roundw
                case rel => exact ⟨k + 1, s9, by omega, by go_num, EF, Lib.hid ⟨K9.out.1, K9.out.2.2.2 rfl hQ.out.2⟩, I9, Lib.hid (next0 hD.out D6.out)⟩
                case measure => simp [intOf]; omega
          · obtain rfl : k = a := by omega
            have EF : Hid (extP true (.mk n l) (.mk n2 r) s = some s') := Lib.hid (by
              rw [EO.out, hE.out, ← HLA.out, List.drop_length, HLA.out, ← HLR.out, List.drop_length]
              rfl)
            go_wp2_with fail
            refine bodyPost_ret (by simp [results, Tryz.results50, go_sem]; rfl) rfl ?_
            unfold BndR
            exact ⟨_, true, rfl, (fun _ => ⟨s', EF.out, hI.out⟩), (fun h => by cases h), next0 D4.out hD.out⟩
    · have EO : Hid (extP true (.mk n l) (.mk n2 r) s = bindP true s n (.mk n2 r)) := Lib.hid (by rw [EP.out]; simp)
      clear EP hvb hsm SM IH KP
      go_enter Tryz.func50, Tryz.ntmps50
      go_upto_region 1 with fail
      rw [← hW2]
      clear hW2
      go_wp2_with fail
      refine (CV.out _).mono ?_
      rintro e w3 ⟨rfl, g3⟩
      have D3 := Lib.hid (next0 GG.out.1 g3.1)
      clear y1 y2 y3 y4 y5 z1 z2 z3 z4 z5
      obtain ⟨y1, y2, y3, y4, y5⟩ := (H2.out.step0 g3.1).two
      obtain ⟨z1, z2, z3, z4, z5⟩ := (T2.out.step0 g3.1).two
      go_wp2_with fail
      refine (CB.out _ D3.out).mono ?_
      rintro e w4 ⟨v4, f, rfl, h1, h2, hb⟩
      have D4 := Lib.hid (next0 D3.out hb)
      have HH := Lib.hid (And.intro h1 h2)
      clear h1 h2 hb
      go_wp2_with fail
      refine bodyPost_ret (v := .tuple #[v4, .bool f]) (by simp [results, Tryz.results50, go_sem]) rfl ?_
      unfold BndR
      exact ⟨_, f, rfl, (fun h => by rw [EO.out]; exact HH.out.1 h), (fun h => by rw [EO.out]; exact HH.out.2 h), D4.out⟩
end UniL
end Go.Proofs.YtihbnonbhelbmaaGreatDoor
