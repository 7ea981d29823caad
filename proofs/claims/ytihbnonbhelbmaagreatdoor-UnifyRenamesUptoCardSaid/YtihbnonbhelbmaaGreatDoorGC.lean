/- Texts laid together: UniS; UniT; UniW; LihD; SmrA; UnqE; UnrF; UnrI. Their own heads stand before each. -/
import Derived.Test.YtihbnonbhelbmaaGreatDoorUniR
import Derived.Test.YtihbnonbhelbmaaGreatDoorUniL
import Derived.Test.YtihbnonbhelbmaaGreatDoorTermEq
import Derived.Deep.RegionWith
import Derived.Test.YtihbnonbhelbmaaGreatDoorGA
import Derived.Test.YtihbnonbhelbmaaGreatDoorGB
import Derived.Deep.DeepCutAuto
import Derived.Deep.RegionHeld3
import Derived.Test.YtihbnonbhelbmaaGreatDoorUniG
import Derived.Test.YtihbnonbhelbmaaGreatDoorTermF
import Derived.Test.YtihbnonbhelbmaaGreatDoorUniK
import Derived.Deep.AppendLies
import Derived.Laws.OwnMore
/- The reference's extend. Condition: bindings and pattern together at most a million. -/
namespace Go.Proofs.YtihbnonbhelbmaaGreatDoor
open Go Go.RowKit
namespace UniS
open LexM TermM TermI Kit TermN TermU UniK UniM UniA UniC UniD UniE UniG UniJ UniO UniL UniR
set_option maxRecDepth 100000 in
set_option maxHeartbeats 1600000 in
theorem rext_var (n : ByteArray) (t : Tm) (s : List Bd) (hl : s.length ≤ 1000000) (B : Nat) (w : World) (sv tv : Value) (p1 : Option Addr) (c1 : Nat) (hB : B ≤ w.heap.size) (hs : SIn (· < B) w s sv) (ht : SlIn (· < B) w t.args tv) (hpn : n.size ≤ maxLen) (htn : t.nm.size ≤ maxLen) (hv : isV (.mk n []) = true) :
    Calls Tryz.prog 52 #[.agg #[.string n, .slice p1 0 c1], .agg #[.string t.nm, tv], sv] w (BndR (bindP false s n t) w) := by
  obtain ⟨p2, c2, rfl⟩ := ht.form
  obtain ⟨W2, hW2⟩ : ∃ W2, W2 = (w.alloc (.cells #[.string n, .slice p1 0 c1] 27)).alloc (.cells #[.string t.nm, .slice p2 t.args.length c2] 27) := ⟨_, rfl⟩
  have G2 : Gr w W2 := by rw [hW2]; exact (Gr.alloc _ _).more _
  have H2 : Hid (Has W2 w.heap.size #[.string n, .slice p1 0 c1]) := Lib.hid (by rw [hW2]; exact (Has.new w _ _).alloc _)
  have T2 : Hid (Has W2 (w.heap.size + 1) #[.string t.nm, .slice p2 t.args.length c2]) := Lib.hid (by rw [hW2]; exact Has.new1 w _ _ _)
  have CV := Lib.hid (fun w' => rvar_t (.mk n []) p1 c1 w' hpn)
  rw [hv] at CV
  dsimp only [Tm.nm, Tm.args, List.length_nil] at CV
  have CL := Lib.hid (fun w' (k : Below w.heap.size w w') => rlookup_any s n B w' sv (Nat.le_trans hB k.size) (hs.deep k hB))
  have CP := Lib.hid (fun w' (k : Below w.heap.size w w') => put_any s (n, t) hl B w' sv (.slice p2 t.args.length c2) (Nat.le_trans hB k.size) (hs.deep k hB) ⟨ht.deep k hB, htn, hpn⟩)
  have CE := Lib.hid (fun (u : Tm) (q : Value) w' (k : Below w.heap.size w w') (hu : SlIn (· < B) w' u.args q) => TermEq.term_any u (cmpT u t == 0) B w' q t (.slice p2 t.args.length c2) (by rw [beq_iff_eq, cmp_zero]) (Nat.le_trans hB k.size) hu (ht.deep k hB))
  have SS := Lib.hid (fun w' (k : Below w.heap.size w w') => (hs.deep k hB).wide (ok' := (· < w'.heap.size)) fun b hb => by have := k.size; omega)
  have EPs := Lib.hid (fun u (h : lookS s n = some u) => show bindP false s n t = (if cmpT u t = 0 then some s else none) from by unfold bindP; rw [h])
  have EPn := Lib.hid (fun (h : lookS s n = none) => show bindP false s n t = some (putS (n, t) s) from by unfold bindP; rw [h]; simp)
  have GG := Lib.hid G2
  obtain ⟨y1, y2, y3, y4, y5⟩ := H2.out.two
  clear hs ht hpn htn hv hl G2
  generalize lookS s n = o9 at *
  dsimp only at CP
  generalize t.nm = tn at *
  generalize t.args.length = ta at *
  unfold RLkR at CL
  unfold InsR at CP
  go_enter Tryz.func52, Tryz.ntmps52
  go_upto_region 1 with fail
  rw [← hW2]
  clear hW2
  go_wp2_with fail
  refine (CV.out _).mono ?_
  rintro e w3 ⟨rfl, g3⟩
  have D3 := Lib.hid (next0 GG.out.1 g3.1)
  have H3 := Lib.hid (H2.out.step0 g3.1)
  have T3 := Lib.hid (T2.out.step0 g3.1)
  clear y1 y2 y3 y4 y5 CV g3 H2 T2
  obtain ⟨y1, y2, y3, y4, y5⟩ := H3.out.two
  go_wp2_with fail
  refine (CL.out _ D3.out).mono ?_
  rintro e w4 ⟨u, q, d, f, rfl, hc, hS, hnu, hb⟩
  have D4 := Lib.hid (next0 D3.out hb)
  have H4 := Lib.hid (H3.out.step0 hb)
  have T4 := Lib.hid (T3.out.step0 hb)
  have S4 := Lib.hid hS
  have HC := Lib.hid hc
  clear y1 y2 y3 y4 y5 CL hb D3 H3 T3 hS hnu hc
  obtain ⟨y1, y2, y3, y4, y5⟩ := H4.out.two
  obtain ⟨z1, z2, z3, z4, z5⟩ := T4.out.two
  have K5 := Lib.hid (fun (o : Obj) => below_alloc w4 o)
  have T5 := Lib.hid (fun (o : Obj) => (T4.out.alloc o).two)
  have H5 := Lib.hid (fun (o : Obj) => (H4.out.alloc o).two)
  rcases HC.out with ⟨ho, rfl⟩ | ⟨ho, hu, rfl⟩
  · subst ho
    have CE5 := Lib.hid (fun (w' : World) (k : Below w4.heap.size w4 w') => CE.out u (.slice q u.args.length d) w' (next0 D4.out k) (S4.out.deep k (by have := D4.out.size; omega)))
    obtain ⟨z, hz⟩ : ∃ z, (cmpT u t == 0) = z := ⟨_, rfl⟩
    have EZ : Hid (bindP false s n t = if z = true then some s else none) := Lib.hid (by rw [EPs.out u rfl, ← hz]; simp)
    rw [hz] at CE5
    clear hz CE HC EPs EPn S4
    generalize u.nm = un at *
    generalize u.args.length = ua at *
    go_wp2_with fail
    refine (CE5.out _ (below_alloc _ _)).mono ?_
    rintro e w5 ⟨rfl, g5⟩
    have D5 := Lib.hid (next0 D4.out (next0 (below_alloc w4 _) g5.1))
    go_wp2_with fail
    refine bodyPost_ret (v := .tuple #[sv, .bool z]) (by simp [results, Tryz.results52, go_sem]) rfl ?_
    unfold BndR
    cases z
    · exact ⟨_, false, rfl, (fun h => by cases h), (fun _ => EZ.out), D5.out⟩
    · exact ⟨_, true, rfl, (fun _ => ⟨s, EZ.out, SS.out _ D5.out⟩), (fun h => by cases h), D5.out⟩
  · subst ho
    subst hu
    have EO := Lib.hid (EPn.out rfl)
    clear EPs EPn CE HC
    go_wp2_with fail
    refine (CP.out _ (next0 D4.out (below_alloc _ _))).mono ?_
    rintro e w5 ⟨v5, rfl, hS5, hb5⟩
    have D5 := Lib.hid (next0 D4.out (next0 (below_alloc w4 _) hb5))
    have S5 := Lib.hid hS5
    clear hS5 hb5
    go_wp2_with fail
    refine bodyPost_ret (v := .tuple #[v5, .bool true]) (by simp [results, Tryz.results52, go_sem]) rfl ?_
    unfold BndR
    exact ⟨_, true, rfl, (fun _ => ⟨_, EO.out, S5.out⟩), (fun h => by cases h), D5.out⟩
set_option maxRecDepth 100000 in
set_option maxHeartbeats 3200000 in
theorem rext_any (p : Tm) : ∀ (t : Tm) (s : List Bd), Srt s → s.length + sizeT p ≤ 1000000 → ∀ (B : Nat) (w : World) (sv pv tv : Value), B ≤ w.heap.size → SIn (· < B) w s sv → SlIn (· < B) w p.args pv → SlIn (· < B) w t.args tv → p.nm.size ≤ maxLen → t.nm.size ≤ maxLen →
    Calls Tryz.prog 52 #[.agg #[.string p.nm, pv], .agg #[.string t.nm, tv], sv] w (BndR (extP false p t s) w) := by
  induction p using Tm.ind with
  | h n l ih =>
    rintro ⟨n2, r⟩ s hS hl B w sv pv tv hB hs hp ht hpn htn
    by_cases hv : isV (.mk n l) = true
    · have hl0 : l = [] := by cases l with
        | nil => rfl
        | cons a l => simp [isV, Tm.args] at hv
      subst hl0
      obtain ⟨p1, c1, rfl⟩ := hp.form
      have := rext_var n (.mk n2 r) s (by omega) B w sv tv p1 c1 hB hs ht hpn htn hv
      have e : extP false (.mk n []) (.mk n2 r) s = bindP false s n (.mk n2 r) := by rw [extP, if_pos hv]
      rw [e]
      exact this
    have hv0 : isV (.mk n l) = false := by simpa using hv
    dsimp only [Tm.args, Tm.nm] at hp hpn ht htn ⊢
    obtain ⟨p1, c1, rfl, _, hlc, hcm, hPR⟩ := hp.row
    obtain ⟨p2, c2, rfl, _, _, _, hTR⟩ := ht.row
    have h63 : l.length ≤ 9223372036854775807 := by unfold maxLen at hcm; omega
    clear hlc hcm
    obtain ⟨W2, hW2⟩ : ∃ W2, W2 = (w.alloc (.cells #[.string n, .slice p1 l.length c1] 27)).alloc (.cells #[.string n2, .slice p2 r.length c2] 27) := ⟨_, rfl⟩
    have G2 : Gr w W2 := by rw [hW2]; exact (Gr.alloc _ _).more _
    have H2 : Hid (Has W2 w.heap.size #[.string n, .slice p1 l.length c1]) := Lib.hid (by rw [hW2]; exact (Has.new w _ _).alloc _)
    have T2 : Hid (Has W2 (w.heap.size + 1) #[.string n2, .slice p2 r.length c2]) := Lib.hid (by rw [hW2]; exact Has.new1 w _ _ _)
    have CV := Lib.hid (fun w' => rvar_t (.mk n l) p1 c1 w' hpn)
    have IH : Hid (∀ x ∈ l, ∀ (y : Tm) (s' : List Bd), Srt s' → s'.length + sizeT x ≤ 1000000 → ∀ (w' : World) (sv' v1 v2 : Value), SIn (· < w'.heap.size) w' s' sv' → SlIn (· < w'.heap.size) w' x.args v1 → SlIn (· < w'.heap.size) w' y.args v2 → x.nm.size ≤ maxLen → y.nm.size ≤ maxLen → Calls Tryz.prog 52 #[.agg #[.string x.nm, v1], .agg #[.string y.nm, v2], sv'] w' (BndR (extP false x y s') w')) :=
      Lib.hid (fun x hx y s' h1 h2 w' sv' v1 v2 h3 h4 h5 h6 h7 => ih x hx y s' h1 h2 w'.heap.size w' sv' v1 v2 (Nat.le_refl _) h3 h4 h5 h6 h7)
    have KP := Lib.hid (fun (x : Tm) (y : Tm) s' s'' (h : Srt s') (e : extP false x y s' = some s'') => ext_keeps false x y s' s'' h e)
    have GG := Lib.hid G2
    have HB := Lib.hid hB
    have HPR := Lib.hid hPR
    have HTR := Lib.hid hTR
    have SS := Lib.hid (fun w' (k : Below w.heap.size w w') => (hs.deep k hB).wide (ok' := (· < w'.heap.size)) fun b hb => by have := k.size; omega)
    have hl2 : s.length + (sizeL (l.drop 0) + 1) ≤ 1000000 := by simpa [sizeT] using hl
    have HSL := Lib.hid (And.intro hS hl2)
    have SD := Lib.hid (fun k x (h : l[k]? = some x) => show sizeL (l.drop k) = sizeT x + sizeL (l.drop (k + 1)) from by
      obtain ⟨hk, rfl⟩ := List.getElem?_eq_some_iff.1 h
      rw [List.drop_eq_getElem_cons hk, sizeL])
    have EP : Hid (extP false (.mk n l) (.mk n2 r) s = if eqB n n2 && decide (l.length = r.length) then extL false l r s else none) := Lib.hid (by rw [extP, hv0]; rfl)
    rw [hv0] at CV
    clear hs hp ht hpn htn hPR hTR hS hl hl2 ih hB G2 hv hv0
    obtain ⟨y1, y2, y3, y4, y5⟩ := H2.out.two
    obtain ⟨zn, hzn⟩ : ∃ z, (n.toList == n2.toList) = z := ⟨_, rfl⟩
    have HZN : eqB n n2 = zn := by unfold eqB; rw [← hzn, ByteArray.toList_eq, ByteArray.toList_eq]
    rw [HZN] at EP
    have hzn2 : (n.toList != n2.toList) = !zn := by rw [bne, hzn]
    clear HZN
    dsimp only [Tm.nm, Tm.args] at CV
    unfold BndR at IH
    generalize hla : l.length = a at *
    generalize hlr : r.length = b at *
    have HLA := Lib.hid hla
    have HLR := Lib.hid hlr
    clear hla hlr
    go_enter Tryz.func52, Tryz.ntmps52
    go_upto_region 1 with fail
    rw [← hW2]
    clear hW2
    go_wp2_with fail
    refine (CV.out _).mono ?_
    rintro e w3 ⟨rfl, g3⟩
    have D3 := Lib.hid (next0 GG.out.1 g3.1)
    have H3 := Lib.hid (H2.out.step0 g3.1)
    have T3 := Lib.hid (T2.out.step0 g3.1)
    clear y1 y2 y3 y4 y5 g3 H2 T2 CV
    obtain ⟨y1, y2, y3, y4, y5⟩ := H3.out.two
    obtain ⟨z1, z2, z3, z4, z5⟩ := T3.out.two
    cases zn
    · have EO : Hid (extP false (.mk n l) (.mk n2 r) s = none) := Lib.hid (EP.out.trans (by simp))
      clear EP IH KP
      go_wp2_with fail
      refine bodyPost_ret (v := .tuple #[.slice none 0 0, .bool false]) (by simp [results, Tryz.results52, go_sem]) rfl ?_
      unfold BndR
      exact ⟨_, false, rfl, (fun h => by cases h), (fun _ => EO.out), D3.out⟩
    · by_cases hab : a = b
      · subst hab
        have EO : Hid (extP false (.mk n l) (.mk n2 r) s = extL false (l.drop 0) (r.drop 0) s) := Lib.hid (EP.out.trans (by simp))
        clear EP
        go_wp2_with fail
        clear y1 y2 y3 y4 y5 z1 z2 z3 z4 z5
        go_loopw [2, 10, 11] (fun v kv i wr => ∃ (k : Nat) (ok : Bool) (s' : List Bd), k ≤ a ∧ kv = .bool ok ∧ i = .int .i64 k ∧ Hid (ok = true → extL false (l.drop 0) (r.drop 0) s = extL false (l.drop k) (r.drop k) s' ∧ Srt s' ∧ s'.length + (sizeL (l.drop k) + 1) ≤ 1000000 ∧ SIn (· < wr.heap.size) wr s' v) ∧ Hid (ok = false → extL false (l.drop 0) (r.drop 0) s = none) ∧ Hid (Below w3.heap.size w3 wr)) (fun _ _ i _ => a - (intOf i).toNat)
        case atStart => exact ⟨0, true, s, Nat.zero_le _, rfl, rfl, Lib.hid (fun _ => ⟨rfl, HSL.out.1, HSL.out.2, SS.out _ D3.out⟩), Lib.hid (fun h => by cases h), Lib.hid (Below.refl _ _)⟩
        case round =>
          obtain ⟨k, ok, s', hk, rfl, rfl, hT, hF, hD⟩ := hrel
          obtain ⟨y1, y2, y3, y4, y5⟩ := (H3.out.step0 hD.out).two
          obtain ⟨z1, z2, z3, z4, z5⟩ := (T3.out.step0 hD.out).two
          have D5 := Lib.hid (next0 D3.out hD.out)
          cases ok
          · have EF : Hid (extP false (.mk n l) (.mk n2 r) s = none) := Lib.hid (EO.out.trans (hF.out rfl))
            clear hT hF IH KP
            by_cases hlt : k < a
            all_goals
              go_wp2_with fail
              refine bodyPost_ret (by simp [results, Tryz.results52, go_sem]; rfl) rfl ?_
              unfold BndR
              exact ⟨_, false, rfl, (fun h => by cases h), (fun _ => EF.out), D5.out⟩
          · have HQ := Lib.hid (hT.out rfl)
            clear hT hF
            by_cases hlt : k < a
            · obtain ⟨x, b, o, q, d, hx, rfl, hb, e1, e2, hxs, hxn⟩ := (Row.deep HPR.out D5.out HB.out) k (by rw [HLA.out]; exact hlt)
              obtain ⟨y, b2, o2, q2, d2, hy, rfl, hb2, u1, u2, hys, hyn⟩ := (Row.deep HTR.out D5.out HB.out) k (by rw [HLR.out]; exact hlt)
              have EX := Lib.hid (HQ.out.1.trans (ext_list hx hy s'))
              have SX := Lib.hid (SD.out k x hx)
              have hsx : s'.length + (sizeT x + sizeL (l.drop (k + 1)) + 1) ≤ 1000000 := by have := HQ.out.2.2.1; rw [SX.out] at this; exact this
              have CI := Lib.hid (fun w' (g : Below wr.heap.size wr w') => IH.out x (List.mem_of_getElem? hx) y s' HQ.out.2.1 (by omega) w' _ _ _ ((HQ.out.2.2.2.deep g (Nat.le_refl _)).wide fun b hb => Nat.lt_of_lt_of_le hb g.size) ((hxs.deep g (Nat.le_trans HB.out D5.out.size)).weaken fun b hb => Nat.lt_of_lt_of_le hb (Nat.le_trans HB.out (Nat.le_trans D5.out.size g.size))) ((hys.deep g (Nat.le_trans HB.out D5.out.size)).weaken fun b hb => Nat.lt_of_lt_of_le hb (Nat.le_trans HB.out (Nat.le_trans D5.out.size g.size))) hxn hyn)
              have KK := Lib.hid (fun s'' (e : extP false x y s' = some s'') => KP.out x y s' s'' HQ.out.2.1 e)
              have NX := Lib.hid (fun (n : Nat) (h : n ≤ s'.length + sizeT x) => show n + (sizeL (l.drop (k + 1)) + 1) ≤ 1000000 from by omega)
              clear hx hy hxs hxn hys hyn hsx SX IH KP SS SD HSL HQ
              generalize extP false x y s' = o9 at *
              generalize x.nm = xn at *
              generalize x.args.length = xa at *
              generalize y.nm = yn at *
              generalize y.args.length = ya at *
              go_wp2_with fail
              go_region_with (first
                | (go_at_call 52; (with_reducible refine (CI.out _ (by first | exact Below.refl _ _ | exact (Below.refl _ _).drew | exact below_drewN (Below.refl _ _) _)).mono ?_); rintro e w6 ⟨v6, f, rfl, h1, h2, hb6⟩; have D6 : Hid (Below wr.heap.size wr w6) := Lib.hid (by first | exact hb6 | exact next0 (Below.refl _ _).drew hb6 | exact next0 (below_drewN (Below.refl _ _) _) hb6); have HH := Lib.hid (And.intro h1 h2); clear h1 h2 hb6))
              all_goals
                go_wp2_with fail
                go_roundw
                case rel =>
                  cases f
                  · exact ⟨k + 1, false, [], by omega, rfl, by go_num, Lib.hid (fun h => by cases h), Lib.hid (fun _ => EX.out.trans (by rw [HH.out.2 rfl])), Lib.hid (next0 hD.out D6.out)⟩
                  · obtain ⟨s9, hs9, hI9⟩ := HH.out.1 rfl
                    exact ⟨k + 1, true, s9, by omega, rfl, by go_num, Lib.hid (fun _ => ⟨EX.out.trans (by rw [hs9]), (KK.out s9 hs9).1, NX.out _ (KK.out s9 hs9).2.2.1, hI9⟩), Lib.hid (fun h => by cases h), Lib.hid (next0 hD.out D6.out)⟩
                case measure => simp [intOf]; omega
            · obtain rfl : k = a := by omega
              have EF : Hid (extP false (.mk n l) (.mk n2 r) s = some s') := Lib.hid (by
                rw [EO.out, HQ.out.1, ← HLA.out, List.drop_length, HLA.out, ← HLR.out, List.drop_length]
                rfl)
              have I9 := Lib.hid HQ.out.2.2.2
              clear HQ IH KP
              go_wp2_with fail
              refine bodyPost_ret (by simp [results, Tryz.results52, go_sem]; rfl) rfl ?_
              unfold BndR
              exact ⟨_, true, rfl, (fun _ => ⟨s', EF.out, I9.out⟩), (fun h => by cases h), D5.out⟩
      · have hai : ((a : Int) == (b : Int)) = false := by rw [beq_eq_false_iff_ne]; omega
        have haj : ((a : Int) != (b : Int)) = true := by rw [bne, hai]; rfl
        have EO : Hid (extP false (.mk n l) (.mk n2 r) s = none) := Lib.hid (EP.out.trans (by simp [hab]))
        clear EP IH KP hab
        go_wp2_with fail
        refine bodyPost_ret (v := .tuple #[.slice none 0 0, .bool false]) (by simp [results, Tryz.results52, go_sem]) rfl ?_
        unfold BndR
        exact ⟨_, false, rfl, (fun h => by cases h), (fun _ => EO.out), D3.out⟩
end UniS
end Go.Proofs.YtihbnonbhelbmaaGreatDoor
/- The reference's Match, which answers as the code's does. Condition: bindings and pattern together at most a million. -/
namespace Go.Proofs.YtihbnonbhelbmaaGreatDoor
open Go Go.RowKit
namespace UniT
open LexM TermM TermI Kit TermN TermU TermH UniK UniM UniA UniB UniC UniD UniE UniG UniJ UniO UniL UniP UniR UniS
theorem extl_keeps (lim : Bool) : ∀ (l r : List Tm) (s s' : List Bd), Srt s → extL lim l r s = some s' → Keeps lim (sizeL l) s s'
  | [], r, s, s', hS, h => by
    unfold extL at h
    cases h
    exact ⟨hS, Nat.le_refl _, by omega, fun _ h => h⟩
  | a :: l, [], s, s', hS, h => by unfold extL at h; cases h
  | a :: l, t :: r, s, s', hS, h => by
    unfold extL at h
    split at h
    · rename_i s1 h1
      obtain ⟨a1, a2, a3, a4⟩ := ext_keeps lim a t s s1 hS h1
      obtain ⟨b1, b2, b3, b4⟩ := extl_keeps lim l r s1 s' a1 h
      exact ⟨b1, by omega, by simp only [sizeL]; omega, fun e h => b4 e (a4 e h)⟩
    · cases h
/-- With the limit: the same, or none where it is passed. -/
def cut64 (o : Option (List Bd)) : Option (List Bd) := match o with
  | some s => if s.length ≤ 64 then some s else none
  | none => none
theorem bind_none {s : List Bd} {v : ByteArray} {t : Tm} (h : bindP false s v t = none) : bindP true s v t = none := by
  unfold bindP at h ⊢
  split at h
  · split at h
    · cases h
    · simp_all
  · simp at h
theorem ext_lim (p : Tm) : ∀ (t : Tm) (s : List Bd), Srt s → s.length ≤ 64 → extP true p t s = cut64 (extP false p t s) := by
  induction p using Tm.ind with
  | h n l ih =>
    intro t s hS hs
    unfold extP
    split
    · cases hb : bindP false s n t with
      | none => rw [bind_none hb]; rfl
      | some s' =>
        rw [bind_lim hb]
        unfold cut64
        by_cases h : s'.length ≤ 64
        · rw [if_neg (by omega)]; simp [h]
        · rw [if_pos (by omega)]; simp [h]
    · split
      · have key : ∀ (l : List Tm), (∀ x ∈ l, ∀ (t : Tm) (s : List Bd), Srt s → s.length ≤ 64 → extP true x t s = cut64 (extP false x t s)) → ∀ (r : List Tm) (s : List Bd), Srt s → s.length ≤ 64 → extL true l r s = cut64 (extL false l r s) := by
          intro l
          induction l with
          | nil =>
            intro _ r s _ hs
            simp [extL, cut64, hs]
          | cons a l ihl =>
            intro hx r s hS hs
            cases r with
            | nil => simp [extL, cut64]
            | cons t r =>
              unfold extL
              rw [hx a (by simp) t s hS hs]
              cases he : extP false a t s with
              | none => simp [cut64]
              | some s1 =>
                have hS1 := (ext_keeps false a t s s1 hS he).1
                by_cases h1 : s1.length ≤ 64
                · simp only [cut64, h1, if_true]
                  exact ihl (fun x hx' => hx x (by simp [hx'])) r s1 hS1 h1
                · simp only [cut64, h1, if_false]
                  cases hl : extL false l r s1 with
                  | none => rfl
                  | some s2 =>
                    have := (extl_keeps false l r s1 s2 hS1 hl).2.1
                    simp only
                    rw [if_neg (by omega)]
        exact key l ih t.args s hS hs
      · rfl
theorem valid_step (g : Bool) : ∀ (d : Nat) (t : Tm), validT g d t = true → validT g (d + 1) t = true
  | 0, t, h => by cases t; simp [validT] at h
  | d + 1, .mk n l, h => by
    unfold validT at h ⊢
    split at h
    · rename_i he
      rw [if_pos he]
      exact h
    · rename_i he
      rw [if_neg he]
      rw [Bool.and_eq_true, List.all_eq_true] at h ⊢
      exact ⟨h.1, fun x hx => valid_step g d x (h.2 x hx)⟩
theorem valid_up (g : Bool) {d e : Nat} (h : d ≤ e) {t : Tm} (hv : validT g d t = true) : validT g e t = true := by
  induction h with
  | refl => exact hv
  | step _ ih => exact valid_step g _ t ih
theorem srt_asc : ∀ s : List Bd, Srt s → ascB s = true
  | [], _ => rfl
  | [x], _ => rfl
  | a :: b :: r, h => by
    unfold ascB
    rw [Bool.and_eq_true]
    exact ⟨lt_lex.2 (h 0 1 a b (by omega) rfl rfl), srt_asc (b :: r) (srt_tail h)⟩
theorem vld_of {s : List Bd} (h1 : s.length ≤ 64) (h2 : Srt s) (h3 : ∀ y ∈ s, varB y.1 = true ∧ validT false 4 y.2 = true) : vldS s = true := by
  unfold vldS
  rw [Bool.and_eq_true, Bool.and_eq_true, decide_eq_true_eq, List.all_eq_true]
  exact ⟨h1, fun y hy => by rw [Bool.and_eq_true]; exact h3 y hy, srt_asc s h2⟩
theorem vld_all {s : List Bd} (h : vldS s = true) : ∀ y ∈ s, varB y.1 = true ∧ validT false 4 y.2 = true := by
  unfold vldS at h
  rw [Bool.and_eq_true, Bool.and_eq_true, List.all_eq_true] at h
  intro y hy
  have := h.2.1 y hy
  rw [Bool.and_eq_true] at this
  exact this
/-- What is bound by matching a ground term is valid. -/
theorem ext_vld {lim : Bool} {p t : Tm} {s s' : List Bd} (hs : vldS s = true) (ht : validT true 4 t = true) (h : extP lim p t s = some s') : ∀ y ∈ s', varB y.1 = true ∧ validT false 4 y.2 = true := by
  refine ext_all (P := fun y => varB y.1 = true ∧ validT false 4 y.2 = true) (Q := fun t => ∃ d, d ≤ 4 ∧ validT true d t = true) ?_ ?_ lim p t s s' h (vld_all hs) ⟨4, Nat.le_refl _, ht⟩
  · rintro n l ⟨d, hd, h⟩ x hx
    cases d with
    | zero => simp [validT] at h
    | succ d =>
      unfold validT at h
      split at h
      · rename_i he
        cases l with
        | nil => cases hx
        | cons a l => simp at he
      · rw [Bool.and_eq_true, List.all_eq_true] at h
        exact ⟨d, by omega, h.2 x hx⟩
  · rintro v t hv ⟨d, hd, h⟩
    exact ⟨hv, valid_up false hd ((ground_leaf d t).1 h).1⟩
theorem match_eq (p t : Tm) (s : List Bd) (hs : vldS s = true) (ht : validT true 4 t = true) : matchP p t s = match extP false p t s with
    | some s' => if vldS s' = true then some s' else none
    | none => none := by
  unfold matchP
  rw [hs, ht]
  simp only [Bool.and_self, if_true]
  rw [ext_lim p t s (vld_srt hs).1 (vld_srt hs).2]
  cases he : extP false p t s with
  | none => rfl
  | some s' =>
    have h1 := (ext_keeps false p t s s' (vld_srt hs).1 he).1
    have h2 := ext_vld hs ht he
    unfold cut64
    simp only
    by_cases hl : s'.length ≤ 64
    · rw [if_pos hl, if_pos (vld_of hl h1 h2)]
    · rw [if_neg hl, if_neg (fun h => hl (vld_srt h).2)]
set_option maxRecDepth 100000 in
set_option maxHeartbeats 3200000 in
theorem rmatch_any (p t : Tm) (s : List Bd) (hz : sizeT p ≤ 900000) (B : Nat) (w : World) (sv pv tv : Value) (hB : B ≤ w.heap.size) (hs : SIn (· < B) w s sv) (hp : SlIn (· < B) w p.args pv) (ht : SlIn (· < B) w t.args tv) (hpn : p.nm.size ≤ maxLen) (htn : t.nm.size ≤ maxLen) :
    Calls Tryz.prog 27 #[.agg #[.string p.nm, pv], .agg #[.string t.nm, tv], sv] w (MtR (matchP p t s) w) := by
  obtain ⟨p1, c1, rfl⟩ := hp.form
  obtain ⟨p2, c2, rfl⟩ := ht.form
  obtain ⟨W2, hW2⟩ : ∃ W2, W2 = (w.alloc (.cells #[.string p.nm, .slice p1 p.args.length c1] 27)).alloc (.cells #[.string t.nm, .slice p2 t.args.length c2] 27) := ⟨_, rfl⟩
  have G2 : Gr w W2 := by rw [hW2]; exact (Gr.alloc _ _).more _
  have H2 : Hid (Has W2 w.heap.size #[.string p.nm, .slice p1 p.args.length c1]) := Lib.hid (by rw [hW2]; exact (Has.new w _ _).alloc _)
  have T2 : Hid (Has W2 (w.heap.size + 1) #[.string t.nm, .slice p2 t.args.length c2]) := Lib.hid (by rw [hW2]; exact Has.new1 w _ _ _)
  have CV := Lib.hid (fun w' (k : Below w.heap.size w w') => rvalid_any s B w' sv (Nat.le_trans hB k.size) (hs.deep k hB))
  have CE := Lib.hid (fun (hv : vldS s = true) w' (k : Below w.heap.size w w') => rext_any p t s (vld_srt hv).1 (by have := (vld_srt hv).2; omega) B w' sv _ _ (Nat.le_trans hB k.size) (hs.deep k hB) (hp.deep k hB) (ht.deep k hB) hpn htn)
  have CG := Lib.hid (fun w' (k : Below w.heap.size w w') => TermV.rground_any t B w' _ (Nat.le_trans hB k.size) htn (ht.deep k hB))
  have MN : Hid (vldS s = false ∨ validT true 4 t = false → matchP p t s = none) := Lib.hid (fun h => by
    unfold matchP
    rcases h with h | h <;> simp [h])
  have MO := Lib.hid (fun (hs : vldS s = true) (ht : validT true 4 t = true) (he : extP false p t s = none) => show matchP p t s = none from by rw [match_eq p t s hs ht, he])
  have MS := Lib.hid (fun (hs : vldS s = true) (ht : validT true 4 t = true) s' (he : extP false p t s = some s') => show matchP p t s = if vldS s' = true then some s' else none from by rw [match_eq p t s hs ht, he])
  have GG := Lib.hid G2
  clear hs hp ht hpn htn hz G2
  obtain ⟨vb, hvb⟩ : ∃ vb, vldS s = vb := ⟨_, rfl⟩
  rw [hvb] at CV MN CE MO MS
  generalize validT true 4 t = gb at *
  generalize p.nm = pn at *
  generalize p.args.length = pa at *
  generalize t.nm = tn at *
  generalize t.args.length = ta at *
  clear hvb
  obtain ⟨y1, y2, y3, y4, y5⟩ := T2.out.two
  unfold BndR at CE
  cases vb
  · clear CE CG MO MS
    have EO := Lib.hid (MN.out (Or.inl rfl))
    go_enter Tryz.func27, Tryz.ntmps27
    go_upto_region 1 with fail
    rw [← hW2]
    clear hW2
    go_wp2_with fail
    refine (CV.out _ GG.out.1).mono ?_
    rintro e w3 ⟨rfl, g3⟩
    have D3 := Lib.hid (next0 GG.out.1 g3.1)
    go_wp2_with fail
    refine bodyPost_ret (v := .tuple #[.slice none 0 0, .bool false]) (by simp [results, Tryz.results27, go_sem]) rfl ?_
    unfold MtR
    exact ⟨_, false, rfl, (fun h => by cases h), (fun _ => ⟨EO.out, rfl⟩), D3.out⟩
  · go_enter Tryz.func27, Tryz.ntmps27
    go_upto_region 1 with fail
    rw [← hW2]
    clear hW2
    go_wp2_with fail
    refine (CV.out _ GG.out.1).mono ?_
    rintro e w3 ⟨rfl, g3⟩
    have D3 := Lib.hid (next0 GG.out.1 g3.1)
    have T3 := Lib.hid (T2.out.step0 g3.1)
    have H3 := Lib.hid (H2.out.step0 g3.1)
    clear y1 y2 y3 y4 y5 g3 T2 H2
    obtain ⟨y1, y2, y3, y4, y5⟩ := T3.out.two
    go_wp2_with fail
    refine (CG.out _ D3.out).mono ?_
    rintro e w4 ⟨rfl, g4⟩
    have D4 := Lib.hid (next0 D3.out g4.1)
    cases gb
    · have EO := Lib.hid (MN.out (Or.inr rfl))
      clear CE MO MS
      go_wp2_with fail
      refine bodyPost_ret (v := .tuple #[.slice none 0 0, .bool false]) (by simp [results, Tryz.results27, go_sem]) rfl ?_
      unfold MtR
      exact ⟨_, false, rfl, (fun h => by cases h), (fun _ => ⟨EO.out, rfl⟩), D4.out⟩
    · have T4 := Lib.hid (T3.out.step0 g4.1)
      have H4 := Lib.hid (H3.out.step0 g4.1)
      clear y1 y2 y3 y4 y5 g4 T3 H3
      obtain ⟨y1, y2, y3, y4, y5⟩ := T4.out.two
      obtain ⟨z1, z2, z3, z4, z5⟩ := H4.out.two
      go_wp2_with fail
      refine (CE.out trivial _ D4.out).mono ?_
      rintro e w5 ⟨v5, f, rfl, h1, h2, hb5⟩
      have D5 := Lib.hid (next0 D4.out hb5)
      cases f
      · have EO := Lib.hid (MO.out trivial trivial (h2 rfl))
        clear MS MN h1 h2
        go_wp2_with fail
        refine bodyPost_ret (v := .tuple #[.slice none 0 0, .bool false]) (by simp [results, Tryz.results27, go_sem]) rfl ?_
        unfold MtR
        exact ⟨_, false, rfl, (fun h => by cases h), (fun _ => ⟨EO.out, rfl⟩), D5.out⟩
      · obtain ⟨s9, he, hI⟩ := h1 rfl
        have EO := Lib.hid (MS.out trivial trivial s9 he)
        have CW := Lib.hid (rvalid_any s9 w5.heap.size w5 v5 (Nat.le_refl _) hI)
        have I9 := Lib.hid (fun w' (k : Below w5.heap.size w5 w') => (hI.deep k (Nat.le_refl _)).wide (ok' := (· < w'.heap.size)) fun b hb => Nat.lt_of_lt_of_le hb k.size)
        clear MS MN MO h1 h2 he hI
        generalize vldS s9 = v9 at *
        go_wp2_with fail
        refine CW.out.mono ?_
        rintro e w6 ⟨rfl, g6⟩
        have D6 := Lib.hid (next0 D5.out g6.1)
        have J9 := Lib.hid (I9.out _ g6.1)
        clear g6
        cases v9
        · go_wp2_with fail
          refine bodyPost_ret (v := .tuple #[.slice none 0 0, .bool false]) (by simp [results, Tryz.results27, go_sem]) rfl ?_
          unfold MtR
          exact ⟨_, false, rfl, (fun h => by cases h), (fun _ => ⟨by rw [EO.out]; rfl, rfl⟩), D6.out⟩
        · go_wp2_with fail
          refine bodyPost_ret (v := .tuple #[v5, .bool true]) (by simp [results, Tryz.results27, go_sem]) rfl ?_
          unfold MtR
          exact ⟨_, true, rfl, (fun _ => ⟨s9, by rw [EO.out]; rfl, J9.out⟩), (fun h => by cases h), D6.out⟩
end UniT
end Go.Proofs.YtihbnonbhelbmaaGreatDoor
/- The walk of UnifyMatches, awake's contract as a premise. No other conditions. -/
namespace Go.Proofs.YtihbnonbhelbmaaGreatDoor
open Go Go.RowKit
namespace UniW
open LexM TermM TermI Kit TermN TermS TermU TermH UniK UniM UniA UniB UniC UniD UniE UniG UniJ UniO UniL UniP UniQ UniT UniV
/-- What awake leaves. -/
def Aw (w : World) : Prop := ∀ w', Below w.heap.size w w' → Calls Tryz.prog 13 #[] w' fun e w'' => e = .returned (.bool true) ∧ Below w'.heap.size w' w''
theorem size_of {t : Tm} (h : partsT 100 100 t ≤ 100) : sizeT t ≤ 100 := by
  have := (parts_size 100 100 t h).1
  omega
set_option maxRecDepth 100000 in
set_option maxHeartbeats 3200000 in
theorem matches_ (p t : Tm) (s : List Bd) (w : World) (sv pv tv : Value) (hs : SIn (· < w.heap.size) w s sv) (hp : SlIn (· < w.heap.size) w p.args pv) (ht : SlIn (· < w.heap.size) w t.args tv) (hpn : p.nm.size ≤ maxLen) (htn : t.nm.size ≤ maxLen) (AW : Aw w) :
    Calls Tryz.prog 5 #[.agg #[.string p.nm, pv], .agg #[.string t.nm, tv], sv] w fun e w' => e = .returned (.bool true) ∧ Below w.heap.size w w' := by
  obtain ⟨p1, c1, rfl⟩ := hp.form
  obtain ⟨p2, c2, rfl⟩ := ht.form
  obtain ⟨W2, hW2⟩ : ∃ W2, W2 = (w.alloc (.cells #[.string p.nm, .slice p1 p.args.length c1] 27)).alloc (.cells #[.string t.nm, .slice p2 t.args.length c2] 27) := ⟨_, rfl⟩
  have G2 : Gr w W2 := by rw [hW2]; exact (Gr.alloc _ _).more _
  have H2 : Hid (Has W2 w.heap.size #[.string p.nm, .slice p1 p.args.length c1]) := Lib.hid (by rw [hW2]; exact (Has.new w _ _).alloc _)
  have T2 : Hid (Has W2 (w.heap.size + 1) #[.string t.nm, .slice p2 t.args.length c2]) := Lib.hid (by rw [hW2]; exact Has.new1 w _ _ _)
  have CF := Lib.hid (fun w' (k : Below w.heap.size w w') => few_any s w.heap.size w' sv k.size (hs.deep k (Nat.le_refl _)))
  have C1 := Lib.hid (fun w' (k : Below w.heap.size w w') => UniV.small_any p w.heap.size w' _ k.size (hp.deep k (Nat.le_refl _)))
  have C2 := Lib.hid (fun w' (k : Below w.heap.size w w') => UniV.small_any t w.heap.size w' _ k.size (ht.deep k (Nat.le_refl _)))
  have CM := Lib.hid (fun (h1 : SmS s) (h2 : partsT 100 100 t ≤ 100) w' (k : Below w.heap.size w w') => match_any p t s (by have := size_of h2; omega) (fun y hy => by have := size_of (h1.2 y hy); omega) w.heap.size w' sv _ _ k.size (hs.deep k (Nat.le_refl _)) (hp.deep k (Nat.le_refl _)) (ht.deep k (Nat.le_refl _)) hpn htn)
  have CR := Lib.hid (fun (h1 : partsT 100 100 p ≤ 100) w' (k : Below w.heap.size w w') => rmatch_any p t s (by have := size_of h1; omega) w.heap.size w' sv _ _ k.size (hs.deep k (Nat.le_refl _)) (hp.deep k (Nat.le_refl _)) (ht.deep k (Nat.le_refl _)) hpn htn)
  have GG := Lib.hid G2
  have AW' := Lib.hid AW
  have HH := Lib.hid (fun w' (k : Below W2.heap.size W2 w') => And.intro (H2.out.step0 k).two (T2.out.step0 k).two)
  clear hs hp ht hpn htn AW H2 T2 G2
  obtain ⟨b1, hb1⟩ : ∃ b, decide (partsT 100 100 p ≤ 100) = b := ⟨_, rfl⟩
  obtain ⟨b2, hb2⟩ : ∃ b, decide (partsT 100 100 t ≤ 100) = b := ⟨_, rfl⟩
  rw [hb1] at C1
  rw [hb2] at C2
  have CR := Lib.hid (fun (h : b1 = true) => CR.out (by rw [h, decide_eq_true_eq] at hb1; exact hb1))
  have CM := Lib.hid (fun (hs : SmS s) (h : b2 = true) => CM.out hs (by rw [h, decide_eq_true_eq] at hb2; exact hb2))
  clear hb1 hb2
  generalize matchP p t s = o9 at *
  generalize p.nm = pn at *
  generalize p.args.length = pa at *
  generalize t.nm = tn at *
  generalize t.args.length = ta at *
  unfold FewS at CF
  unfold MtR at CM CR
  unfold Aw at AW'
  obtain ⟨⟨y1, y2, _⟩, z1, z2, _⟩ := HH.out _ (Below.refl _ _)
  go_enter Tryz.func5, Tryz.ntmps5
  go_upto_region 1 with fail
  rw [← hW2]
  clear hW2
  go_wp2_with fail
  refine (CF.out _ GG.out.1).mono ?_
  rintro e w3 ⟨b, rfl, hsm, g3⟩
  have D3 := Lib.hid (next0 GG.out.1 g3.1)
  have K3 := Lib.hid g3.1
  have SM := Lib.hid hsm
  clear g3 hsm y1 y2 z1 z2
  obtain ⟨⟨y1, y2, _⟩, z1, z2, _⟩ := HH.out _ K3.out
  cases b
  · clear CM CR C1 C2
    go_wp2_with fail
    refine (AW'.out _ D3.out).mono ?_
    rintro e w4 ⟨rfl, k4⟩
    have D4 := Lib.hid (next0 D3.out k4)
    go_wp2_with fail
    go_ret
    exact ⟨rfl, D4.out⟩
  · have CN := Lib.hid (CM.out (SM.out rfl))
    clear CM
    go_wp2_with fail
    refine (C1.out _ D3.out).mono ?_
    rintro e w4 ⟨rfl, g4⟩
    have D4 := Lib.hid (next0 D3.out g4.1)
    have K4 := Lib.hid (next0 K3.out g4.1)
    clear g4 y1 y2 z1 z2
    obtain ⟨⟨y1, y2, _⟩, z1, z2, _⟩ := HH.out _ K4.out
    cases b1
    · clear CN CR C1 C2
      go_wp2_with fail
      refine (AW'.out _ D4.out).mono ?_
      rintro e w5 ⟨rfl, k5⟩
      have D5 := Lib.hid (next0 D4.out k5)
      go_wp2_with fail
      go_ret
      exact ⟨rfl, D5.out⟩
    · have CS := Lib.hid (CR.out (by trivial))
      clear CR
      go_wp2_with fail
      refine (C2.out _ D4.out).mono ?_
      rintro e w5 ⟨rfl, g5⟩
      have D5 := Lib.hid (next0 D4.out g5.1)
      have K5 := Lib.hid (next0 K4.out g5.1)
      clear g5 y1 y2 z1 z2
      obtain ⟨⟨y1, y2, _⟩, z1, z2, _⟩ := HH.out _ K5.out
      cases b2
      · clear CN CS C1 C2
        go_wp2_with fail
        refine (AW'.out _ D5.out).mono ?_
        rintro e w6 ⟨rfl, k6⟩
        have D6 := Lib.hid (next0 D5.out k6)
        go_wp2_with fail
        go_ret
        exact ⟨rfl, D6.out⟩
      · have CO := Lib.hid (CN.out (by trivial))
        go_wp2_with fail
        refine (CO.out _ D5.out).mono ?_
        rintro e w6 ⟨v6, f6, rfl, h1, h2, k6⟩
        have D6 := Lib.hid (next0 D5.out k6)
        have K6 := Lib.hid (next0 K5.out k6)
        have M1 := Lib.hid (And.intro h1 h2)
        clear h1 h2 k6 y1 y2 z1 z2
        obtain ⟨⟨y1, y2, _⟩, z1, z2, _⟩ := HH.out _ K6.out
        go_wp2_with fail
        refine (CS.out _ D6.out).mono ?_
        rintro e w7 ⟨v7, f7, rfl, h1, h2, k7⟩
        have D7 := Lib.hid (next0 D6.out k7)
        have M2 := Lib.hid (And.intro h1 h2)
        have BW := Lib.hid k7
        clear h1 h2 k7 y1 y2 z1 z2
        have key : Hid (f6 = f7 ∧ ∃ s9, SIn (· < w7.heap.size) w7 s9 v6 ∧ SIn (· < w7.heap.size) w7 s9 v7) := Lib.hid (by
          cases f6
          · obtain ⟨ho, hv⟩ := M1.out.2 rfl
            cases f7
            · obtain ⟨ho', hv'⟩ := M2.out.2 rfl
              rw [hv, hv']
              exact ⟨rfl, [], SIn.nil _ _, SIn.nil _ _⟩
            · obtain ⟨s9, h9, _⟩ := M2.out.1 rfl
              rw [ho] at h9
              cases h9
          · obtain ⟨s9, h9, hI⟩ := M1.out.1 rfl
            cases f7
            · obtain ⟨ho', hv'⟩ := M2.out.2 rfl
              rw [ho'] at h9
              cases h9
            · obtain ⟨s8, h8, hI8⟩ := M2.out.1 rfl
              rw [h9] at h8
              cases h8
              exact ⟨rfl, s9, (hI.deep BW.out (Nat.le_refl _)).wide fun b hb => Nat.lt_of_lt_of_le hb BW.out.size, hI8⟩)
        obtain ⟨rfl, s9, hI6, hI7⟩ := key.out
        have SA := Lib.hid (same_any s9 s9 true (by simp) w7.heap.size w7 v6 v7 (Nat.le_refl _) hI6 hI7)
        clear hI6 hI7 key M1 M2 CN CS
        have hff : (f6 == f6) = true := by simp
        go_wp2_with fail
        refine SA.out.mono ?_
        rintro e w8 ⟨rfl, g8⟩
        have D8 := Lib.hid (next0 D7.out g8.1)
        clear g8
        cases f6
        all_goals
          go_wp2_with fail
          refine (AW'.out _ D8.out).mono ?_
          rintro e w9 ⟨rfl, k9⟩
          have D9 := Lib.hid (next0 D8.out k9)
          go_wp2_with fail
          go_ret
          exact ⟨rfl, D9.out⟩
end UniW
end Go.Proofs.YtihbnonbhelbmaaGreatDoor
/- gameplayerplain.Light: rules evaluated round by round. Conditions: at most a thousand rules of at most eight literals, all atoms of at most twenty parts, short names; good given atoms. -/
namespace Go.Proofs.YtihbnonbhelbmaaGreatDoor
open Go Go.RowKit Go.Maps Go.WideMaps
namespace LihD
open Kit LexM TermM TermI TermN TermU TermE UniM UniK UniA UniD UniE UniG UniR LigM LigP LigG LigD LigQ LigE LigW LigV LigU LigX LigY LigZ UnmB
theorem slin_far2 {ok : Nat → Prop} {w : World} {k : Nat} {l : List Tm} {v : Value} (h : SlIn ok w l v) (hk : ∀ b, ok b → b ≠ k) (a b : Value) : SlIn ok ((w.setCell ⟨k, 0, none⟩ a).setCell ⟨k, 1, none⟩ b) l v :=
  h.frame fun g o hg => by rw [cell_far (by show g ≠ k; exact hk g hg), cell_far (by show g ≠ k; exact hk g hg)]
/-- The state between the closure's calls. -/
def OS (N A b : Nat) (w0 w : World) : Prop := ∃ (L : List (Tm × Value)) (M : List ByteArray) (av : Value) (lf : Int), St N ((N + 3) * 20 ^ 4) (20 ^ 4) A w L M av ∧ Has w A #[.int .i64 lf] ∧ 0 ≤ lf ∧ lf ≤ 1000000 ∧ L.length ≤ b ∧ Below A w0 w
theorem dof_nil : Dof [] = .map [] := rfl
theorem os_add {N A b : Nat} {w0 w w' : World} {L : List (Tm × Value)} {M : List ByteArray} {av : Value} {lf : Int} {e : Ending} (S : St N ((N + 3) * 20 ^ 4) (20 ^ 4) A w L M av) (H : Has w A #[.int .i64 lf]) (h0 : 0 ≤ lf) (h1 : lf ≤ 1000000) (hb : L.length ≤ b) (D : Below A w0 w) (h : AddQ N A w L av e w') : OS N A (b + 1) w0 w' := by
  obtain ⟨_, L', M', av', S', _, hl, lt, _⟩ := h
  have hA := S.cell.lt
  have ho := S.own.1.lt
  refine ⟨L', M', av', lf, S', lt.has H (fun e => ?_), h0, h1, by omega, D.trans (lt.toBelow (by omega) fun i e => ?_)⟩
  · rcases e with e | e | e
    · omega
    · omega
    · have := ho _ e; omega
  · rcases e with e | e | e
    · omega
    · omega
    · have := ho _ e; omega
theorem Ch.lt {ex : Nat → Prop} {r : Nat} {a b c : World} (h : Ch r a b) (g : Lt ex b c) (hx : ∀ i, ex i → a.heap.size ≤ i) : Ch r a c :=
  ⟨g.os.trans h.os, g.tape.trans h.tape, g.output.trans h.output, Nat.le_trans h.size g.size, fun i hi hn => (g.block i (Nat.lt_of_lt_of_le hi h.size) (fun e => by have := hx i e; omega)).trans (h.block i hi hn)⟩
/-- instance, called where the ways were made. -/
theorem ci_i {κ : Nat → Prop} {N : Nat} {w5 wr w' : World} {t : Tm} {ps : List Bd} {tv pv : Value} (hN : (N + 3) * 4000000 ≤ 4611686018427387904) (hκ : ∀ b, κ b → b < w5.heap.size) (h5 : w5.heap.size ≤ wr.heap.size) (hps : GP N ((N + 3) * 20 ^ 4) (20 ^ 4) ps) (hpl : ps.length ≤ 1000000) (ht : SlIn κ wr t.args tv) (hp : PIn κ wr ps pv)
    (hn : t.nm.size ≤ maxLen) (hG : GN N t) (hz : sizeT t ≤ 20) (kb : Below wr.heap.size wr w') :
    Calls Tryz.prog 108 #[.agg #[.string t.nm, tv], pv] w' (fun e w'' => ∃ (u : Tm) (q9 : Option Addr) (d9 : Nat) (f : Bool) (lo : Nat), e = .returned (.tuple #[.agg #[.string u.nm, .slice q9 u.args.length d9], .bool f]) ∧ lo = w'.heap.size ∧ SlIn (fun b => κ b ∨ (lo ≤ b ∧ b < w''.heap.size)) w'' u.args (.slice q9 u.args.length d9) ∧ u.nm.size ≤ maxLen ∧ (f = true → Gm N u) ∧ Below w'.heap.size w' w'') := by
  have hk : ∀ b, κ b → b < wr.heap.size := fun b hb => Nat.lt_of_lt_of_le (hκ b hb) h5
  have hsz := kb.size
  refine (instance_any N ((N + 3) * 20 ^ 4) (20 ^ 4) ps hps (by omega) hpl t κ wr.heap.size w' tv pv hk hsz (ht.frame fun b o hb => kb.cell (p := ⟨b, o, none⟩) (hk b hb)) (hp.keep fun b o hb => kb.cell (p := ⟨b, o, none⟩) (hk b hb)) hn hG).mono ?_
  rintro e w'' ⟨u, q, d, f, he, h1, h2, h3, h4⟩
  exact ⟨u, q, d, f, _, he, rfl, h1, h2, fun hf => gm_inst hN hG hz (h3 hf), h4⟩
theorem kap3 {ok3 : Nat → Prop} {B3 s t : Nat} {v : Value} (h1 : ∀ b, ok3 b → b < B3) (hB : B3 ≤ s) (hst : s ≤ t) (hv : ∀ k, v.ownBlock = some k → B3 ≤ k ∧ k < s) : ∀ b, (ok3 b ∨ (s ≤ b ∧ b < t)) → b < t ∧ (ok3 b ∨ B3 ≤ b) ∧ v.ownBlock ≠ some b := fun b hb => by
  rcases hb with hb | hb
  · have := h1 b hb
    exact ⟨by omega, Or.inl hb, fun e => by have := hv b e; omega⟩
  · exact ⟨hb.2, Or.inr (by omega), fun e => by have := hv b e; omega⟩
theorem okq2 {κ : Nat → Prop} {lo hi c : Nat} (h : ∀ b, κ b → b < c) (h2 : hi ≤ c) : ∀ b, (κ b ∨ (lo ≤ b ∧ b < hi)) → b < c := fun b hb => hb.elim (h b) fun h => Nat.lt_of_lt_of_le h.2 h2
theorem okn2 {κ : Nat → Prop} {a lo hi g : Nat} (h : ∀ b, κ b → b < a) (h1 : a ≤ g) (h2 : g < lo ∨ hi ≤ g) : ∀ b, (κ b ∨ (lo ≤ b ∧ b < hi)) → b ≠ g := fun b hb e => by
  rcases hb with hb | hb
  · have := h b hb; omega
  · omega
/-- What is taken into the row of new atoms lies apart from it. -/
theorem okm {κ ok3 : Nat → Prop} {B3 a r c : Nat} {v : Value} {mo : Option Nat} (h1 : ∀ b, κ b → b < a ∧ (ok3 b ∨ B3 ≤ b) ∧ mo ≠ some b) (hB : B3 ≤ r) (ha : a ≤ r) (hrc : r ≤ c) (hv : ∀ k, v.ownBlock = some k → k < r) (hw : ∀ k, v.ownBlock = some k → mo = some k ∨ a ≤ k) :
    ∀ b, (κ b ∨ (r ≤ b ∧ b < c)) → (ok3 b ∨ B3 ≤ b) ∧ b < c ∧ v.ownBlock ≠ some b := fun b hb => by
  rcases hb with hb | hb
  · obtain ⟨a1, a2, a3⟩ := h1 b hb
    refine ⟨a2, by omega, fun e => ?_⟩
    rcases hw b e with h | h
    · exact a3 h
    · omega
  · exact ⟨Or.inr (by omega), hb.2, fun e => by have := hv b e; omega⟩
theorem Lt.trans2 {ex ex' : Nat → Prop} {a b c : World} (h : Lt ex a b) (k : Lt ex' b c) (hx : ∀ i, ex' i → ex i ∨ a.heap.size ≤ i) : Lt ex a c := ⟨k.os.trans h.os, k.tape.trans h.tape, k.output.trans h.output, Nat.le_trans h.size k.size, fun i hi hn => (k.block i (Nat.lt_of_lt_of_le hi h.size) (fun e => by rcases hx i e with h | h; exact hn h; omega)).trans (h.block i hi hn)⟩
theorem own_row {ok0 : Nat → Prop} {base : Nat} {w : World} {L : List (Tm × Value)} {p : Option Addr} {n c : Nat} (h : OwnA ok0 base w L (.slice p n c)) (k : Nat) (hk : k < L.length) : ∃ (x : Tm × Value) (g : Nat) (q : Option Addr) (d : Nat) (ok : Nat → Prop), L[k]? = some x ∧ p = some ⟨g, 0, none⟩ ∧ (base ≤ g ∧ g < w.heap.size) ∧ w.cell? ⟨g, k * 2, none⟩ = some (.string x.1.nm) ∧
    w.cell? ⟨g, k * 2 + 1, none⟩ = some (.slice q x.1.args.length d) ∧ (∀ b, ok b → (ok0 b ∨ base ≤ b) ∧ b < w.heap.size) ∧ SlIn ok w x.1.args (.slice q x.1.args.length d) ∧ x.1.nm.size ≤ maxLen := by
  obtain ⟨h1, ok, h2, h3⟩ := h
  have hl := h1.lt
  rcases h1.2 with ⟨_, hz⟩ | ⟨g, cap, cur, e, _⟩
  · omega
  · cases e
    obtain ⟨x, hx⟩ : ∃ x, L[k]? = some x := ⟨L[k], by simp [hk]⟩
    obtain ⟨f1, f2⟩ := flatL_get L k x hx
    have hxs := h3 x (List.mem_of_getElem? hx)
    obtain ⟨q, d, eq⟩ := hxs.1.form
    refine ⟨x, g, q, d, ok, hx, rfl, hl g rfl, (h1.cellAt _ (by omega)).trans f1, ?_, fun b hb => ⟨(h2 b hb).1, (h2 b hb).2.1⟩, by rw [← eq]; exact hxs.1, hxs.2⟩
    rw [h1.cellAt _ (by omega), f2, eq]
theorem hok_old {N K Z A : Nat} {w : World} {L : List (Tm × Value)} {M : List ByteArray} {av : Value} (S : St N K Z A w L M av) : ∀ b, b < A → (b < A ∨ A + 4 ≤ b) ∧ b < w.heap.size ∧ av.ownBlock ≠ some b := fun b hb => by
  have hA := S.cell.lt
  exact ⟨Or.inl hb, by omega, fun e => by have := S.own.1.lt _ e; omega⟩
theorem own_cap {ok0 : Nat → Prop} {base : Nat} {w : World} {L : List (Tm × Value)} {va : Option Addr} {n vc : Nat} (h : OwnA ok0 base w L (.slice va n vc)) (hn : n = L.length) : n ≤ vc ∧ vc ≤ maxLen := by
  rcases h.1.2 with ⟨e, hz⟩ | ⟨g, cap, cur, e, e2, e3, e4, e5, _⟩
  · cases e
    exact ⟨Nat.le_refl _, Nat.zero_le _⟩
  · cases e
    exact ⟨by omega, e5⟩
set_option maxRecDepth 100000 in
set_option maxHeartbeats 12800000 in
theorem light_any (N : Nat) (h4 : 4 ≤ N) (hN : (N + 3) * 4000000 ≤ 4611686018427387904) (l : List Rl) (given : List Tm) (w0 : World) (lv gv : Value) (hl : RIn (· < w0.heap.size) w0 l lv) (hg : SlIn (· < w0.heap.size) w0 given gv) (hll : l.length ≤ 1000) (hgl : given.length ≤ 1000000)
    (hr : ∀ r ∈ l, GN N r.1 ∧ sizeT r.1 ≤ 20 ∧ r.2.length ≤ 8 ∧ ∀ x ∈ r.2, sizeT x.2 ≤ 20) (hgv : ∀ t ∈ given, Gm N t) :
    Calls Tryz.prog 78 #[lv, gv] w0 (fun e w' => (∃ b, e = .returned (.bool b)) ∧ Below w0.heap.size w0 w') := by
  obtain ⟨i0, hi, hz0, hz1, hz2⟩ := info_parts Tryz.info28
  obtain ⟨lp, lc, rfl⟩ := hl.form
  obtain ⟨gp, gc, rfl⟩ := hg.form
  obtain ⟨A, hA⟩ : ∃ A, A = w0.heap.size := ⟨_, rfl⟩
  have HA := Lib.hid hA
  have RL := Lib.hid (fun w' (k : Below A w0 w') => hl.keep (w' := w') fun b o hb => k.cell (p := ⟨b, o, none⟩) (by rw [hA]; exact hb))
  have GV := Lib.hid (fun w' (k : Below A w0 w') => hg.frame (w' := w') fun b o hb => k.cell (p := ⟨b, o, none⟩) (by rw [hA]; exact hb))
  have HR := Lib.hid hr
  have HG := Lib.hid hgv
  have H4 := Lib.hid h4
  have HN := Lib.hid hN
  generalize hnl : l.length = nl at *
  have HNL := Lib.hid hnl
  generalize hng : given.length = ng at *
  have HNG := Lib.hid hng
  clear hl hg hr hgv h4 hN hnl hng
  have hmm := @run_makeMap Tryz.prog
  go_enter Tryz.func78, Tryz.ntmps78
  go_upto_region 5 with fail
  obtain ⟨W4, hW4⟩ : ∃ W4, W4 = (((w0.alloc (.cells #[.int .i64 1000000] 109)).alloc (.map #[] 0)).alloc (.cells #[.map (some (w0.heap.size + 1))] 92)).alloc (.cells #[.slice none 0 0] 25) := ⟨_, rfl⟩
  have O4 : Hid (OS N A 0 w0 W4) := Lib.hid (by
    rw [hW4, hA]
    refine ⟨[], [], .slice none 0 0, 1000000, ⟨(Has.new2 _ _ _ _ _).alloc _, Has.new3 _ _ _ _ _ _, OwnA.nil _ _ _, ?_, (fun x hx => by cases hx), (fun x hx => by cases hx)⟩, (((Has.new _ _ _).alloc _).alloc _).alloc _, by omega, Int.le_refl _, Nat.le_refl _, next0 (next0 (next0 (below_alloc _ _) (below_alloc _ _)) (below_alloc _ _)) (below_alloc _ _)⟩
    have := World.ownsMap_made (H := Unit) (w0.alloc (.cells #[.int .i64 1000000] 109)) Tryz.prog 9 (plainElem (H := Unit) Tryz.prog 4)
    rw [World.size_alloc] at this
    exact (this.alloc _).alloc _)
  rw [← hW4]
  clear hW4 hmm
  simp only [← hA]
  clear hA
  go_wp2_with fail
  go_loopw [27] (fun i wr => ∃ k : Nat, k ≤ ng ∧ i = .int .i64 k ∧ Hid (OS N A k w0 wr)) (fun i _ => ng - (intOf i).toNat)
  case atStart => exact ⟨0, Nat.zero_le _, rfl, O4⟩
  case round =>
    obtain ⟨k, hk, rfl, hOS⟩ := hrel
    by_cases hlt : k < ng
    · obtain ⟨L, M, av, lf, S, H, h0, h1, hb, D⟩ := hOS.out
      obtain ⟨t, b, o, q, d, ht, rfl, hbl, c1, c2, hs, hn⟩ := slin_at (GV.out wr D) k (by rw [HNG.out]; exact hlt)
      have G := HG.out t (List.mem_of_getElem? ht)
      have CA := Lib.hid (add_any N A wr L M av S (by omega) t (.slice q t.args.length d) (· < A) (hok_old S) (hs.weaken fun b hb => by rw [HA.out]; exact hb) hn G.1 G.2.1 G.2.2)
      have SS := Lib.hid (And.intro S (And.intro H (And.intro h0 (And.intro h1 (And.intro hb D)))))
      clear S H h0 h1 hb D ht hs hn G hOS
      generalize t.nm = tn at *
      generalize t.args.length = ta at *
      go_wp2_with fail
      refine CA.out.mono ?_
      intro e w5 h5
      have OO := Lib.hid (os_add SS.out.1 SS.out.2.1 SS.out.2.2.1 SS.out.2.2.2.1 SS.out.2.2.2.2.1 SS.out.2.2.2.2.2 h5)
      obtain ⟨rfl, _⟩ := h5
      go_wp2_with fail
      go_roundw
      case rel => exact ⟨k + 1, by omega, by go_num, OO⟩
      case measure => simp [intOf]; omega
    · obtain rfl : k = ng := by omega
      go_wp2_with fail
      go_loopw [10] (fun n wr => ∃ m : Int, n = .int .i64 m ∧ -1 ≤ m ∧ m ≤ 1000 ∧ Hid (OS N A 10000000 w0 wr)) (fun n _ => (1002 - intOf n).toNat)
      case atStart =>
        obtain ⟨L, M, av, lf, S, H, h0, h1, hb, D⟩ := hOS.out
        exact ⟨-1, rfl, by omega, by omega, Lib.hid ⟨L, M, av, lf, S, H, h0, h1, by omega, D⟩⟩
      case round =>
        clear hOS O4 HG GV HNG hgl
        obtain ⟨m, rfl, hm0, hm1, hOS⟩ := hrel
        obtain ⟨wa, hwa⟩ : ∃ z, z = wr := ⟨_, rfl⟩
        subst hwa
        obtain ⟨L, M, av, lf, S, H, h0, h1, hb, D⟩ := hOS.out
        obtain ⟨va, vc, rfl⟩ := S.own.form
        have c1 := S.cell.cell 0
        have c2 := S.cell.free 0
        have c3 := S.cell.lt
        have hcap := own_cap S.own rfl
        have SS := Lib.hid S
        have HH := Lib.hid H
        have DD := Lib.hid D
        clear S H D hOS
        by_cases hc2 : L.length ≤ 1000
        · have hi2 : ((L.length : Nat) : Int) ≤ 1000 := by omega
          by_cases hc : m < (L.length : Int)
          · have hci : ((L.length : Nat) : Int) ≤ (vc : Int) := by omega
            obtain ⟨ok3, hok3⟩ : ∃ f : Nat → Prop, f = okz A wa.heap.size (.slice va L.length vc) := ⟨_, rfl⟩
            obtain ⟨B3, hB3⟩ : ∃ B, B = wa.heap.size := ⟨_, rfl⟩
            have hA3 : A + 4 ≤ B3 := by rw [hB3]; exact c3
            have HK1 : Hid (∀ b, ok3 b → (b < A ∨ A + 4 ≤ b) ∧ b < B3 ∧ (Value.slice va L.length vc).ownBlock ≠ some b) := Lib.hid (by rw [hok3, hB3]; exact fun b h => h)
            have HK2 : Hid (∀ b, b < A → ok3 b) := Lib.hid (by rw [hok3]; exact fun b hb => hok_old SS.out b hb)
            have AT3 : Hid (∀ w', Ch A wa w' → AtR ok3 A w' (L.map (·.1)) (.slice va L.length vc)) := Lib.hid (fun w' g => by
              rw [hok3]
              exact (own_at SS.out.own).ch g fun b hb => ⟨hb.2.1, by rcases hb.1 with h | h <;> omega⟩)
            have S3 := Lib.hid (fun w' (g : Ch A wa w') => St.ch SS.out g)
            have DW : Hid (∀ w', Ch A wa w' → Below A w0 w') := Lib.hid (fun w' g => DD.out.trans (g.toBelow (Nat.le_refl _) (by omega)))
            have RL3 := Lib.hid (fun w' (g : Ch A wa w') => RL.out w' (DW.out w' g))
            have GA3 : Hid (∀ t ∈ L.map (·.1), GT N ((N + 3) * 20 ^ 4) (20 ^ 4) t) := Lib.hid (fun t ht => by
              obtain ⟨x, hx, rfl⟩ := List.mem_map.1 ht
              exact SS.out.good x hx)
            have LL3 : Hid ((L.map (·.1)).length ≤ 1000) := Lib.hid (by rw [List.length_map]; exact hc2)
            have hsz3 : B3 ≤ wa.heap.size := by omega
            have C3 : Hid (Ch A wa wa) := Lib.hid (Ch.refl _ _)
            clear hok3
            go_wp2_with fail
            go_loopw [12, 53] (fun mv i ws => ∃ (k : Nat) (Lm : List (Tm × Value)) (lf : Int), k ≤ nl ∧ i = .int .i64 k ∧ 0 ≤ lf ∧ lf ≤ 1000000 ∧ Lm.length ≤ k * 5001 ∧ Hid (OwnA ok3 B3 ws Lm mv) ∧ Hid (∀ y ∈ Lm, Gm N y.1) ∧ Hid (Has ws A #[.int .i64 lf]) ∧ Hid (Ch A wa ws)) (fun _ i _ => nl - (intOf i).toNat)
            case atStart => exact ⟨0, [], lf, Nat.zero_le _, rfl, h0, h1, Nat.zero_le _, Lib.hid (OwnA.nil _ _ _), Lib.hid (fun y hy => by cases hy), HH, C3⟩
            case round =>
              clear h0 h1 HH lf c1 c2 c3
              obtain ⟨k, Lm, lf, hk, rfl, h0, h1, hLl, hO, hM, hH, hC⟩ := hrel
              by_cases hlt : k < nl
              · obtain ⟨x, g, o, q, d, q2, d2, hx, rfl, hg, e1, e2, e3, hxs, hxn, hxl⟩ := rin_row (RL3.out wr hC.out) k (by rw [HNL.out]; exact hlt)
                have RX := Lib.hid (HR.out x (List.mem_of_getElem? hx))
                have hszr : B3 ≤ wr.heap.size := by have := hC.out.size; omega
                have hAr : A + 4 ≤ wr.heap.size := by omega
                have CW := Lib.hid (ways_any ok3 N ((N + 3) * 20 ^ 4) (20 ^ 4) x.2 (L.map (·.1)) RX.out.2.2.1 RX.out.2.2.2 LL3.out GA3.out wr A lf (.slice q2 x.2.length d2) (.slice va L.length vc) hH.out h0 h1 (fun b hb => by have := HK1.out b hb; exact ⟨by omega, by omega⟩) (hxl.wide fun b hb => by have := HA.out; omega) (AT3.out wr hC.out))
                obtain ⟨ma, mc, rfl⟩ := hO.out.form
                have XS := Lib.hid (And.intro hxs hxn)
                have hgA : g < A := by rw [HA.out]; exact hg
                clear hx hxs hxn hxl hg
                unfold WQ at CW
                generalize hx2 : x.2.length = x2l at *
                clear hx2
                go_wp2_with fail
                refine CW.out.mono ?_
                rintro e w5 ⟨v5, f, rfl, hq, hc5⟩
                have HQ := Lib.hid hq
                have C5 := Lib.hid hc5
                have C05 := Lib.hid (Ch.trans hC.out hc5)
                clear hq hc5 CW
                cases f
                · go_wp2_with fail
                  refine bodyPost_ret (by simp [results, Tryz.results78, go_sem]; rfl) rfl ?_
                  exact ⟨by simp, by rw [← HA.out]; exact DW.out _ C05.out⟩
                · obtain ⟨qs, lf5, hQ, hql, hqs, g0, g1, hH5⟩ := HQ.out rfl
                  obtain ⟨pq, cq, rfl⟩ := hQ.form
                  have hszw : wr.heap.size ≤ w5.heap.size := C5.out.size
                  obtain ⟨κ, hκ⟩ : ∃ κ : Nat → Prop, κ = fun b => ok3 b ∨ (wr.heap.size ≤ b ∧ b < w5.heap.size) := ⟨_, rfl⟩
                  obtain ⟨mo, hmo⟩ : ∃ m, m = (Value.slice ma Lm.length mc).ownBlock := ⟨_, rfl⟩
                  have hml := hO.out.1.lt
                  have KK : Hid (∀ b, κ b → b < w5.heap.size ∧ (ok3 b ∨ B3 ≤ b) ∧ mo ≠ some b) := Lib.hid (by rw [hκ, hmo]; exact kap3 (fun b hb => (HK1.out b hb).2.1) hszr hszw hml)
                  have KL : Hid (∀ b, κ b → b < w5.heap.size) := Lib.hid (fun b hb => (KK.out b hb).1)
                  have KA : Hid (∀ b, b < A → κ b) := Lib.hid (by rw [hκ]; exact fun b hb => Or.inl (HK2.out b hb))
                  have M1 : Hid (∀ i, mo = some i → B3 ≤ i ∧ i < w5.heap.size) := Lib.hid (fun i e => by have := hml i (by rw [← hmo]; exact e); omega)
                  have QK : Hid (∀ w', Lt (fun b => mo = some b) w5 w' → WIn κ w' qs (.slice pq qs.length cq)) := Lib.hid (fun w' g => by
                    have hQ' : WIn κ w5 qs (.slice pq qs.length cq) := by rw [hκ]; exact hQ
                    exact hQ'.keep fun b o hb => g.cell (KK.out b hb).1 (KK.out b hb).2.2)
                  have E1 := (C5.out.cell (o := o + k * 3) (show g < wr.heap.size by omega) (by omega)).trans e1
                  have E2 := (C5.out.cell (o := o + k * 3 + 1) (show g < wr.heap.size by omega) (by omega)).trans e2
                  have XK : Hid (∀ w', Lt (fun b => mo = some b) w5 w' → SlIn κ w' x.1.args (.slice q x.1.args.length d)) := Lib.hid (fun w' gl => by
                    have a1 : SlIn κ w5 x.1.args (.slice q x.1.args.length d) := (XS.out.1.frame (w' := w5) fun b o hb => C5.out.cell (by have := HA.out; omega) (by have := HA.out; omega)).weaken fun b hb => KA.out b (by rw [HA.out]; exact hb)
                    exact a1.frame fun b o hb => gl.cell (KK.out b hb).1 (KK.out b hb).2.2)
                  have O5 : Hid (OwnA ok3 B3 w5 Lm (.slice ma Lm.length mc)) := Lib.hid (own_lt hO.out (Lt.ofCh C5.out) (fun i e => by subst e; exact ⟨by omega, fun h => by have := (HK1.out _ h).1; omega⟩))
                  have H5 := Lib.hid hH5
                  have GQ := Lib.hid hqs
                  have hmw : ∀ i, (Value.slice ma Lm.length mc).ownBlock = some i → mo = some i ∨ w5.heap.size ≤ i := fun i e => Or.inl (by rw [hmo]; exact e)
                  have MW := Lib.hid hmw
                  have L5 : Hid (Lt (fun b => mo = some b) w5 w5) := Lib.hid (Lt.of (Below.refl _ _))
                  generalize hnq : qs.length = nq at *
                  have HNQ := Lib.hid hnq
                  clear hκ hmo hml hQ hqs hH5 hmw HQ hnq e1 e2 e3 hO hH h0 h1
                  go_wp2_with fail
                  go_loopw [12, 71] (fun mv i wt => ∃ (j : Nat) (Lm' : List (Tm × Value)), j ≤ nq ∧ i = .int .i64 j ∧ Lm'.length ≤ k * 5001 + j ∧ Hid (OwnA ok3 B3 wt Lm' mv) ∧ Hid (∀ y ∈ Lm', Gm N y.1) ∧ Hid (Lt (fun b => mo = some b) w5 wt) ∧ Hid (∀ g, mv.ownBlock = some g → mo = some g ∨ w5.heap.size ≤ g)) (fun _ i _ => nq - (intOf i).toNat)
                  case atStart => exact ⟨0, Lm, Nat.zero_le _, rfl, hLl, O5, hM, L5, MW⟩
                  case round =>
                    clear MW O5 L5 hM
                    obtain ⟨j, Lm', hj, rfl, hLl', hO', hM', hT, hw⟩ := hrel
                    by_cases hjlt : j < nq
                    · obtain ⟨s, g2, o2, q3, d3, hs, rfl, hg2, v1, hps⟩ := win_row (QK.out wr hT.out) j (by rw [HNQ.out]; exact hjlt)
                      have hw5 : w5.heap.size ≤ wr.heap.size := hT.out.size
                      have hg2r : g2 < wr.heap.size := by have := KL.out g2 hg2; omega
                      have u1 := (hT.out.cell (g := g) (o := o + k * 3) (by omega) (fun e => by have := M1.out _ e; omega)).trans E1
                      have u2 := (hT.out.cell (g := g) (o := o + k * 3 + 1) (by omega) (fun e => by have := M1.out _ e; omega)).trans E2
                      have GS := GQ.out s (List.mem_of_getElem? hs)
                      have CI := Lib.hid (fun w' (kb : Below wr.heap.size wr w') => ci_i HN.out KL.out hw5 GS.1 (by have := GS.2; omega) (XK.out wr hT.out) hps XS.out.2 RX.out.1 RX.out.2.1 kb)
                      clear hs hg2 hps GS
                      generalize x.1.nm = xn at *
                      generalize x.1.args.length = xa at *
                      generalize s.length = sl at *
                      go_upto_region 24 with fail
                      go_cut [17, 18] (fun v17 v18 wx => ∃ (g9 : Nat) (u : Tm) (q9 : Option Addr) (d9 : Nat) (f : Bool), v17 = .pointer (some ⟨g9, 0, none⟩) ∧ v18 = .bool f ∧ Hid (Has wx g9 #[.string u.nm, .slice q9 u.args.length d9]) ∧ Hid (SlIn (fun b => κ b ∨ (wr.heap.size ≤ b ∧ b < wx.heap.size)) wx u.args (.slice q9 u.args.length d9)) ∧ u.nm.size ≤ maxLen ∧ Hid (f = true → Gm N u) ∧ Hid (Below wr.heap.size wr wx))
                      case first =>
                        have Hb : Hid (∀ w', Below wr.heap.size wr w' → w'.cell? ⟨g, o + k * 3, none⟩ = some (.string xn) ∧ w'.cell? ⟨g, o + k * 3 + 1, none⟩ = some (.slice q xa d) ∧ w'.cell? ⟨g2, o2 + j, none⟩ = some (.slice q3 sl d3) ∧ Hid (Below wr.heap.size wr w')) := Lib.hid (fun w' kb => ⟨(kb.cell (p := ⟨g, _, none⟩) (show g < wr.heap.size by omega)).trans u1, (kb.cell (p := ⟨g, _, none⟩) (show g < wr.heap.size by omega)).trans u2, (kb.cell (p := ⟨g2, _, none⟩) hg2r).trans v1, Lib.hid kb⟩)
                        have K0 : Hid (Below wr.heap.size wr wr.drew) := Lib.hid (Below.refl _ _).drew
                        clear u1 u2 v1
                        refine wp_region_held_drew (S := (fun w' => w'.cell? ⟨g, o + k * 3, none⟩ = some (.string xn) ∧ w'.cell? ⟨g, o + k * 3 + 1, none⟩ = some (.slice q xa d) ∧ w'.cell? ⟨g2, o2 + j, none⟩ = some (.slice q3 sl d3) ∧ Hid (Below wr.heap.size wr w'))) (by kernel_rfl) (Hb.out _ K0.out) (fun hHeld => ?_)
                        generalize hw0 : wr.drew = wz at hHeld K0 ⊢
                        clear hw0
                        have hz0 : wr.heap.size ≤ wz.heap.size := K0.out.size
                        refine wpAnyH_take (i := 0) (v := ?_) rfl (by kernel_rfl) (by kernel_rfl) (by kernel_rfl) (fun _ _ _ h => h) (Or.inl ⟨by rfl, ?_⟩) (by assumption) ?_
                        rotate_left
                        · intro w' hSw; (try dsimp only at hSw); (try simp only [List.getElem_toArray, List.getElem_cons_zero]); go_simp; try with_reducible rfl
                        (try simp only [List.getElem_toArray, List.getElem_cons_zero, Act.put, List.setIfInBounds_toArray, List.set_cons_zero, List.set_cons_succ])
                        refine wpAnyH_take (i := 1) (v := ?_) rfl (by kernel_rfl) (by kernel_rfl) (by kernel_rfl) (fun _ _ _ h => h) (Or.inl ⟨by rfl, ?_⟩) (by assumption) ?_
                        rotate_left
                        · intro w' hSw; (try dsimp only at hSw); (try simp only [List.getElem_toArray, List.getElem_cons_zero, List.getElem_cons_succ]); go_simp; try with_reducible rfl
                        (try simp only [List.getElem_toArray, List.getElem_cons_zero, List.getElem_cons_succ, Act.put, List.setIfInBounds_toArray, List.set_cons_zero, List.set_cons_succ])
                        refine wpAnyH_take (i := 2) (v := ?_) rfl (by kernel_rfl) (by kernel_rfl) (by kernel_rfl) (fun _ _ _ h => h) (Or.inl ⟨by rfl, ?_⟩) (by assumption) ?_
                        rotate_left
                        · intro w' hSw; (try dsimp only at hSw); (try simp only [List.getElem_toArray, List.getElem_cons_zero, List.getElem_cons_succ]); go_simp; try with_reducible rfl
                        (try simp only [List.getElem_toArray, List.getElem_cons_zero, List.getElem_cons_succ, Act.put, List.setIfInBounds_toArray, List.set_cons_zero, List.set_cons_succ])
                        refine wpAnyH_take (i := 3) (v := ?_) rfl (by kernel_rfl) (by kernel_rfl) (by kernel_rfl) (fun _ _ _ h => h) (Or.inl ⟨by rfl, ?_⟩) (by assumption) ?_
                        rotate_left
                        · intro w' hSw; (try dsimp only at hSw); (try simp only [List.getElem_toArray, List.getElem_cons_zero, List.getElem_cons_succ]); go_simp; try with_reducible rfl
                        (try simp only [List.getElem_toArray, List.getElem_cons_zero, List.getElem_cons_succ, Act.put, List.setIfInBounds_toArray, List.set_cons_zero, List.set_cons_succ])
                        refine wpAnyH_take (i := 4) (v := ?_) rfl (by kernel_rfl) (by kernel_rfl) (by kernel_rfl) (fun _ _ _ h => h) (Or.inl ⟨by rfl, ?_⟩) (by assumption) ?_
                        rotate_left
                        · intro w' hSw; (try dsimp only at hSw); (try simp only [List.getElem_toArray, List.getElem_cons_zero, List.getElem_cons_succ]); go_simp; try with_reducible rfl
                        (try simp only [List.getElem_toArray, List.getElem_cons_zero, List.getElem_cons_succ, Act.put, List.setIfInBounds_toArray, List.set_cons_zero, List.set_cons_succ])
                        refine wpAnyH_take (i := 5) (v := ?_) rfl (by kernel_rfl) (by kernel_rfl) (by kernel_rfl) (fun _ _ _ h => h) (Or.inl ⟨by rfl, ?_⟩) (by assumption) ?_
                        rotate_left
                        · intro w' hSw; (try dsimp only at hSw); (try simp only [List.getElem_toArray, List.getElem_cons_zero, List.getElem_cons_succ]); go_simp; try with_reducible rfl
                        (try simp only [List.getElem_toArray, List.getElem_cons_zero, List.getElem_cons_succ, Act.put, List.setIfInBounds_toArray, List.set_cons_zero, List.set_cons_succ])
                        refine wpAnyH_take (i := 6) (v := ?_) rfl (by kernel_rfl) (by kernel_rfl) (by kernel_rfl) (fun _ _ _ h => h) (Or.inl ⟨by rfl, ?_⟩) (by assumption) ?_
                        rotate_left
                        · intro w' hSw; (try dsimp only at hSw); (try simp only [List.getElem_toArray, List.getElem_cons_zero, List.getElem_cons_succ]); go_simp; try with_reducible rfl
                        (try simp only [List.getElem_toArray, List.getElem_cons_zero, List.getElem_cons_succ, Act.put, List.setIfInBounds_toArray, List.set_cons_zero, List.set_cons_succ])
                        refine wpAnyH_take (i := 7) (v := ?_) rfl (by kernel_rfl) (by kernel_rfl) (by kernel_rfl) (fun _ _ _ h => h) (Or.inl ⟨by rfl, ?_⟩) (by assumption) ?_
                        rotate_left
                        · intro w' hSw; (try dsimp only at hSw); (try simp only [List.getElem_toArray, List.getElem_cons_zero, List.getElem_cons_succ]); go_simp; try with_reducible rfl
                        (try simp only [List.getElem_toArray, List.getElem_cons_zero, List.getElem_cons_succ, Act.put, List.setIfInBounds_toArray, List.set_cons_zero, List.set_cons_succ])
                        refine wpAnyH_take (i := 8) (v := ?_) rfl (by kernel_rfl) (by kernel_rfl) (by kernel_rfl) (fun _ _ _ h => h) (Or.inl ⟨by rfl, ?_⟩) (by assumption) ?_
                        rotate_left
                        · intro w' hSw; (try dsimp only at hSw); (try simp only [List.getElem_toArray, List.getElem_cons_zero, List.getElem_cons_succ]); go_simp; try with_reducible rfl
                        (try simp only [List.getElem_toArray, List.getElem_cons_zero, List.getElem_cons_succ, Act.put, List.setIfInBounds_toArray, List.set_cons_zero, List.set_cons_succ])
                        refine wpAnyH_ready (rs := [9, 13]) (by kernel_rfl) (by simp) ?_
                        refine (AllReadyH.cons rfl (fun K hK => ?_) (AllReadyH.cons rfl (fun K hK => ?_) AllReadyH.nil))
                        · skip
                          go_simp
                          (try go_split_ands)
                          go_at_call 108
                          (with_reducible refine (CI.out _ K0.out).mono ?_)
                          rintro e w7 ⟨u, q9, d9, f, lo, rfl, hlo, s7, n7, f7, k7⟩
                          have K7 := Lib.hid (next0 K0.out k7)
                          have z7 : wz.heap.size ≤ w7.heap.size := k7.size
                          have F7 := Lib.hid f7
                          have N7 := Lib.hid n7
                          have J7 := Lib.hid k7
                          obtain ⟨hi, hhi⟩ : ∃ m, m = w7.heap.size := ⟨_, rfl⟩
                          rw [← hhi] at s7
                          have S7 := Lib.hid s7
                          clear s7 n7 f7 k7
                          refine hK.out _ _ (Hb.out _ K7.out) (fun hHeld => ?_)
                          clear hK K
                          (try simp only [List.getElem_toArray, List.getElem_cons_zero, List.getElem_cons_succ, Act.put, List.setIfInBounds_toArray, List.set_cons_zero, List.set_cons_succ])
                          refine wpAnyH_take (i := 10) (v := ?_) rfl (by kernel_rfl) (by kernel_rfl) (by kernel_rfl) (fun _ _ _ h => h) (Or.inl ⟨by rfl, ?_⟩) (by assumption) ?_
                          rotate_left
                          · intro w' hSw; (try dsimp only at hSw); (try simp only [List.getElem_toArray, List.getElem_cons_zero, List.getElem_cons_succ]); go_simp; try with_reducible rfl
                          (try simp only [List.getElem_toArray, List.getElem_cons_zero, List.getElem_cons_succ, Act.put, List.setIfInBounds_toArray, List.set_cons_zero, List.set_cons_succ])
                          refine wpAnyH_take (i := 11) (v := ?_) rfl (by kernel_rfl) (by kernel_rfl) (by kernel_rfl) (fun _ _ _ h => h) (Or.inl ⟨by rfl, ?_⟩) (by assumption) ?_
                          rotate_left
                          · intro w' hSw; (try dsimp only at hSw); (try simp only [List.getElem_toArray, List.getElem_cons_zero, List.getElem_cons_succ]); go_simp; try with_reducible rfl
                          (try simp only [List.getElem_toArray, List.getElem_cons_zero, List.getElem_cons_succ, Act.put, List.setIfInBounds_toArray, List.set_cons_zero, List.set_cons_succ])
                          refine wpAnyH_take (i := 12) (v := ?_) rfl (by kernel_rfl) (by kernel_rfl) (by kernel_rfl) (fun _ _ _ h => h) (Or.inl ⟨by rfl, ?_⟩) (by assumption) ?_
                          rotate_left
                          · intro w' hSw; (try dsimp only at hSw); (try simp only [List.getElem_toArray, List.getElem_cons_zero, List.getElem_cons_succ]); go_simp; try with_reducible rfl
                          (try simp only [List.getElem_toArray, List.getElem_cons_zero, List.getElem_cons_succ, Act.put, List.setIfInBounds_toArray, List.set_cons_zero, List.set_cons_succ])
                          refine wpAnyH_ready (rs := [13]) (by kernel_rfl) (by simp) ?_
                          refine AllReadyH.cons rfl (fun K hK => ?_) AllReadyH.nil
                          go_simp
                          (try go_split_ands)
                          obtain ⟨w8, hw8⟩ : ∃ z, z = w7.alloc (.cells #[.string ⟨#[]⟩, .slice none 0 0] 27) := ⟨_, rfl⟩
                          rw [← hw8]
                          have J8 : Hid (Below w7.heap.size w7 w8) := Lib.hid (by rw [hw8]; exact below_alloc _ _)
                          have H8 : Hid (Has w8 w7.heap.size #[.string ⟨#[]⟩, .slice none 0 0]) := Lib.hid (by rw [hw8]; exact Has.new _ _ _)
                          have K8 := Lib.hid (next0 K7.out J8.out)
                          have z8 : w7.heap.size + 1 ≤ w8.heap.size := by rw [hw8]; simp
                          clear hw8
                          have S8 := Lib.hid (S7.out.frame (w' := w8) fun b o hb => J8.out.cell (p := ⟨b, o, none⟩) (okq2 (fun b hb => Nat.lt_of_lt_of_le (KL.out b hb) (by omega)) (by omega) b hb))
                          refine hK.out _ _ (Hb.out _ K8.out) (fun hHeld => ?_)
                          clear hK K
                          (try simp only [List.getElem_toArray, List.getElem_cons_zero, List.getElem_cons_succ, Act.put, List.setIfInBounds_toArray, List.set_cons_zero, List.set_cons_succ])
                          refine wpAnyH_ready (rs := [14]) (by kernel_rfl) (by simp) ?_
                          refine AllReadyH.cons rfl (fun K hK => ?_) AllReadyH.nil
                          obtain ⟨y1, y2, y3, y4, y5⟩ := H8.out.two
                          go_simp
                          (try go_split_ands)
                          obtain ⟨w9, hw9⟩ : ∃ z, z = (w8.setCell ⟨w7.heap.size, 0, none⟩ (.string u.nm)).setCell ⟨w7.heap.size, 1, none⟩ (.slice q9 u.args.length d9) := ⟨_, rfl⟩
                          rw [← hw9]
                          have hg9 : wr.heap.size ≤ w7.heap.size := by omega
                          have K9 : Hid (Below wr.heap.size wr w9) := Lib.hid (by rw [hw9]; exact (K8.out.setCell hg9 _).setCell hg9 _)
                          have H9 : Hid (Has w9 w7.heap.size #[.string u.nm, .slice q9 u.args.length d9]) := Lib.hid (by rw [hw9]; exact put_agg H8.out _ _)
                          have z9 : w8.heap.size ≤ w9.heap.size := by rw [hw9]; simp [World.setCell]
                          have S9 : Hid (SlIn (fun b => κ b ∨ (lo ≤ b ∧ b < hi)) w9 u.args (.slice q9 u.args.length d9)) := Lib.hid (by rw [hw9]; exact slin_far2 S8.out (okn2 (a := w5.heap.size) KL.out (by omega) (by omega)) _ _)
                          clear hw9 y1 y2 y3 y4 y5
                          refine hK.out _ _ (Hb.out _ K9.out) (fun hHeld => ?_)
                          clear hK K
                          (try simp only [List.getElem_toArray, List.getElem_cons_zero, List.getElem_cons_succ, Act.put, List.setIfInBounds_toArray, List.set_cons_zero, List.set_cons_succ])
                          refine wpAnyH_take (i := 15) (v := ?_) rfl (by kernel_rfl) (by kernel_rfl) (by kernel_rfl) (fun _ _ _ h => h) (Or.inl ⟨by rfl, ?_⟩) (by assumption) ?_
                          rotate_left
                          · intro w' hSw; (try dsimp only at hSw); (try simp only [List.getElem_toArray, List.getElem_cons_zero, List.getElem_cons_succ]); go_simp; try with_reducible rfl
                          (try simp only [List.getElem_toArray, List.getElem_cons_zero, List.getElem_cons_succ, Act.put, List.setIfInBounds_toArray, List.set_cons_zero, List.set_cons_succ])
                          refine wpAnyH_done (by kernel_rfl) ?_ _
                          go_wp2_with fail
                          go_meet
                          exact ⟨w7.heap.size, u, q9, d9, f, rfl, rfl, H9, Lib.hid (S9.out.weaken fun b hb => hb.imp id fun h => ⟨by omega, by omega⟩), N7.out, F7, K9⟩
                        · skip
                          go_simp
                          (try go_split_ands)
                          obtain ⟨w8, hw8⟩ : ∃ z, z = wz.alloc (.cells #[.string ⟨#[]⟩, .slice none 0 0] 27) := ⟨_, rfl⟩
                          rw [← hw8]
                          have J8 : Hid (Below wz.heap.size wz w8) := Lib.hid (by rw [hw8]; exact below_alloc _ _)
                          have H8 : Hid (Has w8 wz.heap.size #[.string ⟨#[]⟩, .slice none 0 0]) := Lib.hid (by rw [hw8]; exact Has.new _ _ _)
                          have K8 := Lib.hid (next0 K0.out J8.out)
                          have z8 : wz.heap.size + 1 ≤ w8.heap.size := by rw [hw8]; simp
                          clear hw8
                          refine hK.out _ _ (Hb.out _ K8.out) (fun hHeld => ?_)
                          clear hK K
                          (try simp only [List.getElem_toArray, List.getElem_cons_zero, List.getElem_cons_succ, Act.put, List.setIfInBounds_toArray, List.set_cons_zero, List.set_cons_succ])
                          refine wpAnyH_ready (rs := [9]) (by kernel_rfl) (by simp) ?_
                          refine AllReadyH.cons rfl (fun K hK => ?_) AllReadyH.nil
                          go_simp
                          (try go_split_ands)
                          go_at_call 108
                          (with_reducible refine (CI.out _ K8.out).mono ?_)
                          rintro e w7 ⟨u, q9, d9, f, lo, rfl, hlo, s7, n7, f7, k7⟩
                          have K7 := Lib.hid (next0 K8.out k7)
                          have z7 : w8.heap.size ≤ w7.heap.size := k7.size
                          have F7 := Lib.hid f7
                          have N7 := Lib.hid n7
                          have J7 := Lib.hid k7
                          obtain ⟨hi, hhi⟩ : ∃ m, m = w7.heap.size := ⟨_, rfl⟩
                          rw [← hhi] at s7
                          have S7 := Lib.hid s7
                          clear s7 n7 f7 k7
                          have HX := Lib.hid (H8.out.step0 J7.out)
                          refine hK.out _ _ (Hb.out _ K7.out) (fun hHeld => ?_)
                          clear hK K
                          (try simp only [List.getElem_toArray, List.getElem_cons_zero, List.getElem_cons_succ, Act.put, List.setIfInBounds_toArray, List.set_cons_zero, List.set_cons_succ])
                          refine wpAnyH_take (i := 10) (v := ?_) rfl (by kernel_rfl) (by kernel_rfl) (by kernel_rfl) (fun _ _ _ h => h) (Or.inl ⟨by rfl, ?_⟩) (by assumption) ?_
                          rotate_left
                          · intro w' hSw; (try dsimp only at hSw); (try simp only [List.getElem_toArray, List.getElem_cons_zero, List.getElem_cons_succ]); go_simp; try with_reducible rfl
                          (try simp only [List.getElem_toArray, List.getElem_cons_zero, List.getElem_cons_succ, Act.put, List.setIfInBounds_toArray, List.set_cons_zero, List.set_cons_succ])
                          refine wpAnyH_take (i := 11) (v := ?_) rfl (by kernel_rfl) (by kernel_rfl) (by kernel_rfl) (fun _ _ _ h => h) (Or.inl ⟨by rfl, ?_⟩) (by assumption) ?_
                          rotate_left
                          · intro w' hSw; (try dsimp only at hSw); (try simp only [List.getElem_toArray, List.getElem_cons_zero, List.getElem_cons_succ]); go_simp; try with_reducible rfl
                          (try simp only [List.getElem_toArray, List.getElem_cons_zero, List.getElem_cons_succ, Act.put, List.setIfInBounds_toArray, List.set_cons_zero, List.set_cons_succ])
                          refine wpAnyH_take (i := 12) (v := ?_) rfl (by kernel_rfl) (by kernel_rfl) (by kernel_rfl) (fun _ _ _ h => h) (Or.inl ⟨by rfl, ?_⟩) (by assumption) ?_
                          rotate_left
                          · intro w' hSw; (try dsimp only at hSw); (try simp only [List.getElem_toArray, List.getElem_cons_zero, List.getElem_cons_succ]); go_simp; try with_reducible rfl
                          (try simp only [List.getElem_toArray, List.getElem_cons_zero, List.getElem_cons_succ, Act.put, List.setIfInBounds_toArray, List.set_cons_zero, List.set_cons_succ])
                          refine wpAnyH_ready (rs := [14]) (by kernel_rfl) (by simp) ?_
                          refine AllReadyH.cons rfl (fun K hK => ?_) AllReadyH.nil
                          obtain ⟨y1, y2, y3, y4, y5⟩ := HX.out.two
                          go_simp
                          (try go_split_ands)
                          obtain ⟨w9, hw9⟩ : ∃ z, z = (w7.setCell ⟨wz.heap.size, 0, none⟩ (.string u.nm)).setCell ⟨wz.heap.size, 1, none⟩ (.slice q9 u.args.length d9) := ⟨_, rfl⟩
                          rw [← hw9]
                          have hg9 : wr.heap.size ≤ wz.heap.size := by omega
                          have K9 : Hid (Below wr.heap.size wr w9) := Lib.hid (by rw [hw9]; exact (K7.out.setCell hg9 _).setCell hg9 _)
                          have H9 : Hid (Has w9 wz.heap.size #[.string u.nm, .slice q9 u.args.length d9]) := Lib.hid (by rw [hw9]; exact put_agg HX.out _ _)
                          have z9 : w7.heap.size ≤ w9.heap.size := by rw [hw9]; simp [World.setCell]
                          have S9 : Hid (SlIn (fun b => κ b ∨ (lo ≤ b ∧ b < hi)) w9 u.args (.slice q9 u.args.length d9)) := Lib.hid (by rw [hw9]; exact slin_far2 S7.out (okn2 (a := w5.heap.size) KL.out (by omega) (by omega)) _ _)
                          clear hw9 y1 y2 y3 y4 y5
                          refine hK.out _ _ (Hb.out _ K9.out) (fun hHeld => ?_)
                          clear hK K
                          (try simp only [List.getElem_toArray, List.getElem_cons_zero, List.getElem_cons_succ, Act.put, List.setIfInBounds_toArray, List.set_cons_zero, List.set_cons_succ])
                          refine wpAnyH_take (i := 15) (v := ?_) rfl (by kernel_rfl) (by kernel_rfl) (by kernel_rfl) (fun _ _ _ h => h) (Or.inl ⟨by rfl, ?_⟩) (by assumption) ?_
                          rotate_left
                          · intro w' hSw; (try dsimp only at hSw); (try simp only [List.getElem_toArray, List.getElem_cons_zero, List.getElem_cons_succ]); go_simp; try with_reducible rfl
                          (try simp only [List.getElem_toArray, List.getElem_cons_zero, List.getElem_cons_succ, Act.put, List.setIfInBounds_toArray, List.set_cons_zero, List.set_cons_succ])
                          refine wpAnyH_done (by kernel_rfl) ?_ _
                          go_wp2_with fail
                          go_meet
                          exact ⟨wz.heap.size, u, q9, d9, f, rfl, rfl, H9, Lib.hid (S9.out.weaken fun b hb => hb.imp id fun h => ⟨by omega, by omega⟩), N7.out, F7, K9⟩
                      case rest =>
                        obtain ⟨g9, u, q9, d9, f, rfl, rfl, H9, S9, n9, F9, K9⟩ := hcut
                        obtain ⟨oa, oc, rfl⟩ := hO'.out.form
                        have O9 := Lib.hid (hO'.out.below K9.out)
                        have T9 := Lib.hid (hT.out.below K9.out)
                        have hlo := hO'.out.1.lt
                        have HW := Lib.hid hw.out
                        clear u1 u2 v1 CI
                        cases f
                        · clear hlo
                          go_wp2_with fail
                          go_roundw
                          case rel => exact ⟨j + 1, Lm', by omega, by go_num, by omega, O9, hM', T9, HW⟩
                          case measure => simp [intOf]; omega
                        · have GU := Lib.hid (F9.out rfl)
                          have A1 : Lm'.length + 1 ≤ maxLen := by unfold maxLen; omega
                          have A2 : (Lm'.length + 1) * 40 ≤ 140737488355328 := by omega
                          have hcw : wr.heap.size ≤ wc.heap.size := K9.out.size
                          have hzb : B3 ≤ (wc.alloc (.cells #[.string u.nm, .slice q9 u.args.length d9] 27)).heap.size := by simp; omega
                          have OKM := Lib.hid (okm (v := .slice oa Lm'.length oc) KK.out (show B3 ≤ wr.heap.size by omega) hw5 hcw (fun k e => (hlo k e).2) HW.out)
                          have HM9 : Hid (∀ y ∈ Lm' ++ [(u, Value.slice q9 u.args.length d9)], Gm N y.1) := Lib.hid (fun y hy => by
                            rcases List.mem_append.1 hy with hy | hy
                            · exact hM'.out y hy
                            · obtain rfl := List.mem_singleton.1 hy
                              exact GU.out)
                          have hcw5 : w5.heap.size ≤ wc.heap.size := by omega
                          clear hlo GU F9
                          obtain ⟨y1, y2, y3, y4, y5⟩ := H9.out.two
                          generalize hun : u.nm = un at *
                          have HUN := Lib.hid hun
                          generalize hul : u.args.length = ul at *
                          clear hun hul
                          go_wp2_with (at_builtin; go_must (refine wpList_append_lies _ rfl _ _ 25 rfl B3 27 i0 (.agg #[.string ⟨#[]⟩, .slice none 0 0]) 2 40 Tryz.underlying25 hi hz0 hz1 hz2 rfl (by decide) (.slice oa Lm'.length oc) Lm'.length (flatL Lm') rfl (O9.out.1.alloc _) ⟨wc.heap.size, 0, none⟩ 1 1 [.string un, .slice q9 ul d9] rfl rfl (news2 _ _ _ _) (one2 _ _ _ _) (by decide) A1 A2 hzb (wc.heap.size + 1) (by simp) ?_; intro g7 cap7 w7 hown hgrow hat hlt7; have O7 := Lib.hid (OwnA.add (t := u) (v1 := .slice q9 ul d9) O9.out S9.out (by rw [HUN.out]; exact n9) OKM.out (by rw [HUN.out]; exact hown) hgrow hat); have T7 := Lib.hid ((T9.out.below (below_alloc _ _)).grown hgrow (fun k e => HW.out k e)); have W7 : Hid (∀ i, (Value.slice (some ⟨g7, 0, none⟩) (Lm'.length + 1) cap7).ownBlock = some i → mo = some i ∨ w5.heap.size ≤ i) := Lib.hid (by (intro i e; have e' : g7 = i := (by simpa [Value.ownBlock] using e); subst e'; exact hat.elim (fun h => HW.out _ h) (fun h => Or.inr (by omega)))); clear hown hgrow hat))
                          go_roundw
                          case rel => exact ⟨j + 1, Lm' ++ [(u, .slice q9 ul d9)], by omega, by go_num, by simp; omega, O7, HM9, T7, W7⟩
                          case measure => simp [intOf]; omega
                    · obtain rfl : j = nq := by omega
                      have HF := Lib.hid (hT.out.has H5.out (fun e => by have := M1.out _ e; omega))
                      have CF := Lib.hid (Ch.lt C05.out hT.out (fun i e => by have := M1.out i e; omega))
                      go_wp2_with fail
                      go_roundw
                      case rel => exact ⟨k + 1, Lm', lf5, by omega, by go_num, g0, g1, by omega, hO', hM', HF, CF⟩
                      case measure => simp [intOf]; omega
              · obtain rfl : k = nl := by omega
                go_wp2_with fail
                go_loopw [12, 96] (fun mv i wt => ∃ (k : Nat) (Lm : List (Tm × Value)) (lf : Int), k ≤ L.length ∧ i = .int .i64 k ∧ 0 ≤ lf ∧ lf ≤ 1000000 ∧ Lm.length ≤ 5001000 + k ∧ Hid (OwnA ok3 B3 wt Lm mv) ∧ Hid (∀ y ∈ Lm, Gm N y.1) ∧ Hid (Has wt A #[.int .i64 lf]) ∧ Hid (Ch A wa wt)) (fun _ i _ => L.length - (intOf i).toNat)
                case atStart => exact ⟨0, Lm, lf, Nat.zero_le _, rfl, h0, h1, by omega, hO, hM, hH, hC⟩
                case round =>
                  clear h0 h1 hLl hO hM hH hC lf
                  obtain ⟨k, Lm, lf, hk, rfl, h0, h1, hLl, hO, hM, hH, hC⟩ := hrel
                  by_cases hlt : k < L.length
                  · obtain ⟨t, g, o, q, d, ht, rfl, hg, e1, e2, hts, htn⟩ := (AT3.out wr hC.out).row k (by rw [List.length_map]; exact hlt)
                    obtain ⟨oa, oc, rfl⟩ := hO.out.form
                    have GT := Lib.hid (GA3.out t (List.mem_of_getElem? ht))
                    have TS : Hid (SlIn ok3 wr t.args (.slice q t.args.length d)) := Lib.hid hts
                    have OL := hO.out.1.lt
                    have hB3r : B3 ≤ wr.heap.size := by have := hC.out.size; omega
                    have nv1 : (Value.slice oa Lm.length oc).ownBlock ≠ some A := fun e => by have := OL _ e; omega
                    have OB3 : Hid (∀ i, (Value.slice oa Lm.length oc).ownBlock = some i → wa.heap.size ≤ i) := Lib.hid (fun i e => by rw [← hB3]; exact (OL i e).1)
                    have OKM : Hid (∀ b, ok3 b → (ok3 b ∨ B3 ≤ b) ∧ b < wr.heap.size ∧ (Value.slice oa Lm.length oc).ownBlock ≠ some b) := Lib.hid (fun b hb => by
                      have h1 := HK1.out b hb
                      exact ⟨Or.inl hb, by omega, fun e => by have := OL _ e; omega⟩)
                    have A1 : Lm.length + 1 ≤ maxLen := by unfold maxLen; omega
                    have A2 : (Lm.length + 1) * 40 ≤ 140737488355328 := by omega
                    clear ht hts htn OL hg
                    obtain ⟨z1, hz1'⟩ : ∃ z, (t.nm.toList == [105, 110, 105, 116]) = z := ⟨_, rfl⟩
                    obtain ⟨z2, hz2'⟩ : ∃ z, (t.nm.toList == [110, 101, 120, 116]) = z := ⟨_, rfl⟩
                    obtain ⟨z3, hz3'⟩ : ∃ z, (t.nm.toList == [108, 101, 103, 97, 108]) = z := ⟨_, rfl⟩
                    generalize t.nm = tn at *
                    generalize t.args.length = ta at *
                    have hzb : ∀ n : ByteArray, B3 ≤ (wr.alloc (.cells #[.string n, .slice q ta d] 27)).heap.size := fun n => by simp; omega
                    by_cases ht1 : ta = 1
                    · have b1 : ((ta : Int) == 1) = true := by rw [beq_iff_eq]; omega
                      have b2 : ((ta : Int) == 2) = false := by rw [beq_eq_false_iff_ne]; omega
                      clear ht1
                      cases z1
                      · cases z2
                        · go_wp2_with fail
                          go_roundw
                          case rel => exact ⟨k + 1, Lm, lf, by omega, by go_num, h0, h1, by omega, hO, hM, hH, hC⟩
                          case measure => simp [intOf]; omega
                        · have GU : Hid (Gm N (.mk ⟨#[116, 114, 117, 101]⟩ t.args)) := Lib.hid (gm_name HN.out (show 4 ≤ N from H4.out) (show 4 ≤ 4 by omega) GT.out)
                          have HM9 : Hid (∀ y ∈ Lm ++ [(Tm.mk ⟨#[116, 114, 117, 101]⟩ t.args, Value.slice q ta d)], Gm N y.1) := Lib.hid (fun y hy => by
                            rcases List.mem_append.1 hy with hy | hy
                            · exact hM.out y hy
                            · obtain rfl := List.mem_singleton.1 hy
                              exact GU.out)
                          go_wp2_with (at_builtin; go_must (refine wpList_append_lies _ rfl _ _ 25 rfl B3 27 i0 (.agg #[.string ⟨#[]⟩, .slice none 0 0]) 2 40 Tryz.underlying25 hi hz0 hz1 hz2 rfl (by decide) (.slice oa Lm.length oc) Lm.length (flatL Lm) rfl (hO.out.1.alloc _) ⟨wr.heap.size, 0, none⟩ 1 1 [.string ⟨#[116, 114, 117, 101]⟩, .slice q ta d] rfl rfl (news2 _ _ _ _) (one2 _ _ _ _) (by decide) A1 A2 (hzb ⟨#[116, 114, 117, 101]⟩) (wr.heap.size + 1) (by simp) ?_; intro g7 cap7 w7 hown hgrow hat hlt7; have O7 := Lib.hid (OwnA.add (t := .mk ⟨#[116, 114, 117, 101]⟩ t.args) (v1 := .slice q ta d) hO.out TS.out (show 4 ≤ maxLen by unfold maxLen; omega) OKM.out hown hgrow hat); have C7 := Lib.hid (Ch.grown (Ch.alloc hC.out _) hgrow OB3.out); have H7 := Lib.hid (UniD.Has.grown (hH.out.alloc _) hgrow nv1); clear hown hgrow hat))
                          go_roundw
                          case rel => exact ⟨k + 1, Lm ++ [(.mk ⟨#[116, 114, 117, 101]⟩ t.args, .slice q ta d)], lf, by omega, by go_num, h0, h1, by simp; omega, O7, HM9, H7, C7⟩
                          case measure => simp [intOf]; omega
                      · have GU : Hid (Gm N (.mk ⟨#[116, 114, 117, 101]⟩ t.args)) := Lib.hid (gm_name HN.out (show 4 ≤ N from H4.out) (show 4 ≤ 4 by omega) GT.out)
                        have HM9 : Hid (∀ y ∈ Lm ++ [(Tm.mk ⟨#[116, 114, 117, 101]⟩ t.args, Value.slice q ta d)], Gm N y.1) := Lib.hid (fun y hy => by
                          rcases List.mem_append.1 hy with hy | hy
                          · exact hM.out y hy
                          · obtain rfl := List.mem_singleton.1 hy
                            exact GU.out)
                        go_wp2_with (at_builtin; go_must (refine wpList_append_lies _ rfl _ _ 25 rfl B3 27 i0 (.agg #[.string ⟨#[]⟩, .slice none 0 0]) 2 40 Tryz.underlying25 hi hz0 hz1 hz2 rfl (by decide) (.slice oa Lm.length oc) Lm.length (flatL Lm) rfl (hO.out.1.alloc _) ⟨wr.heap.size, 0, none⟩ 1 1 [.string ⟨#[116, 114, 117, 101]⟩, .slice q ta d] rfl rfl (news2 _ _ _ _) (one2 _ _ _ _) (by decide) A1 A2 (hzb ⟨#[116, 114, 117, 101]⟩) (wr.heap.size + 1) (by simp) ?_; intro g7 cap7 w7 hown hgrow hat hlt7; have O7 := Lib.hid (OwnA.add (t := .mk ⟨#[116, 114, 117, 101]⟩ t.args) (v1 := .slice q ta d) hO.out TS.out (show 4 ≤ maxLen by unfold maxLen; omega) OKM.out hown hgrow hat); have C7 := Lib.hid (Ch.grown (Ch.alloc hC.out _) hgrow OB3.out); have H7 := Lib.hid (UniD.Has.grown (hH.out.alloc _) hgrow nv1); clear hown hgrow hat))
                        go_roundw
                        case rel => exact ⟨k + 1, Lm ++ [(.mk ⟨#[116, 114, 117, 101]⟩ t.args, .slice q ta d)], lf, by omega, by go_num, h0, h1, by simp; omega, O7, HM9, H7, C7⟩
                        case measure => simp [intOf]; omega
                    · have b1 : ((ta : Int) == 1) = false := by rw [beq_eq_false_iff_ne]; omega
                      by_cases ht2 : ta = 2
                      · have b2 : ((ta : Int) == 2) = true := by rw [beq_iff_eq]; omega
                        clear ht1 ht2
                        cases z3
                        · go_wp2_with fail
                          go_roundw
                          case rel => exact ⟨k + 1, Lm, lf, by omega, by go_num, h0, h1, by omega, hO, hM, hH, hC⟩
                          case measure => simp [intOf]; omega
                        · have GU : Hid (Gm N (.mk ⟨#[100, 111, 101, 115]⟩ t.args)) := Lib.hid (gm_name HN.out (show 4 ≤ N from H4.out) (show 4 ≤ 4 by omega) GT.out)
                          have HM9 : Hid (∀ y ∈ Lm ++ [(Tm.mk ⟨#[100, 111, 101, 115]⟩ t.args, Value.slice q ta d)], Gm N y.1) := Lib.hid (fun y hy => by
                            rcases List.mem_append.1 hy with hy | hy
                            · exact hM.out y hy
                            · obtain rfl := List.mem_singleton.1 hy
                              exact GU.out)
                          go_wp2_with (at_builtin; go_must (refine wpList_append_lies _ rfl _ _ 25 rfl B3 27 i0 (.agg #[.string ⟨#[]⟩, .slice none 0 0]) 2 40 Tryz.underlying25 hi hz0 hz1 hz2 rfl (by decide) (.slice oa Lm.length oc) Lm.length (flatL Lm) rfl (hO.out.1.alloc _) ⟨wr.heap.size, 0, none⟩ 1 1 [.string ⟨#[100, 111, 101, 115]⟩, .slice q ta d] rfl rfl (news2 _ _ _ _) (one2 _ _ _ _) (by decide) A1 A2 (hzb ⟨#[100, 111, 101, 115]⟩) (wr.heap.size + 1) (by simp) ?_; intro g7 cap7 w7 hown hgrow hat hlt7; have O7 := Lib.hid (OwnA.add (t := .mk ⟨#[100, 111, 101, 115]⟩ t.args) (v1 := .slice q ta d) hO.out TS.out (show 4 ≤ maxLen by unfold maxLen; omega) OKM.out hown hgrow hat); have C7 := Lib.hid (Ch.grown (Ch.alloc hC.out _) hgrow OB3.out); have H7 := Lib.hid (UniD.Has.grown (hH.out.alloc _) hgrow nv1); clear hown hgrow hat))
                          go_roundw
                          case rel => exact ⟨k + 1, Lm ++ [(.mk ⟨#[100, 111, 101, 115]⟩ t.args, .slice q ta d)], lf, by omega, by go_num, h0, h1, by simp; omega, O7, HM9, H7, C7⟩
                          case measure => simp [intOf]; omega
                      · have b2 : ((ta : Int) == 2) = false := by rw [beq_eq_false_iff_ne]; omega
                        clear ht1 ht2
                        go_wp2_with fail
                        go_roundw
                        case rel => exact ⟨k + 1, Lm, lf, by omega, by go_num, h0, h1, by omega, hO, hM, hH, hC⟩
                        case measure => simp [intOf]; omega
                  · have hkl : k = L.length := by omega
                    subst hkl
                    have hO6 := hO
                    obtain ⟨oa, oc, rfl⟩ := hO.out.form
                    have hCs := hC.out.size
                    have S6 := Lib.hid (S3.out wr hC.out)
                    have D6 := Lib.hid (DW.out wr hC.out)
                    have hAV := SS.out.own.1.lt
                    have AV : Hid (∀ i, (Value.slice va L.length vc).ownBlock = some i → A + 4 ≤ i ∧ i < B3) := Lib.hid (fun i e => by have := hAV i e; omega)
                    have EX : Hid (∀ i, exA A (.slice va L.length vc) i → i < B3 ∧ ¬ ok3 i) := Lib.hid (fun i e => by
                      rcases e with e | e | e
                      · exact ⟨by omega, fun h => by have := (HK1.out _ h).1; omega⟩
                      · exact ⟨by omega, fun h => by have := (HK1.out _ h).1; omega⟩
                      · exact ⟨(AV.out i e).2, fun h => (HK1.out _ h).2.2 e⟩)
                    have L6 : Hid (Lt (exA A (.slice va L.length vc)) wr wr) := Lib.hid (Lt.of (Below.refl _ _))
                    have W6 : Hid (∀ i, (Value.slice va L.length vc).ownBlock = some i → (Value.slice va L.length vc).ownBlock = some i ∨ wr.heap.size ≤ i) := Lib.hid (fun i e => Or.inl e)
                    obtain ⟨wb, hwb⟩ : ∃ z, z = wr := ⟨_, rfl⟩
                    subst hwb
                    clear hAV
                    go_wp2_with fail
                    go_loopw [160] (fun i wt => ∃ (k : Nat) (L' : List (Tm × Value)) (M' : List ByteArray) (av' : Value), k ≤ Lm.length ∧ i = .int .i64 k ∧ L'.length ≤ 1000 + k ∧ Hid (St N ((N + 3) * 20 ^ 4) (20 ^ 4) A wt L' M' av') ∧ Hid (Lt (exA A (.slice va L.length vc)) wb wt) ∧ Hid (∀ i, av'.ownBlock = some i → (Value.slice va L.length vc).ownBlock = some i ∨ wb.heap.size ≤ i)) (fun i _ => Lm.length - (intOf i).toNat)
                    case atStart => exact ⟨0, L, M, _, Nat.zero_le _, rfl, by omega, S6, L6, W6⟩
                    case round =>
                      clear S6 L6 W6
                      obtain ⟨k, L', M', av', hk6, rfl, hl6, hS6, hT6, hV6⟩ := hrel
                      by_cases hlt6 : k < Lm.length
                      · obtain ⟨x, g, q, d, okx, hx, rfl, hg, e1, e2, hokx, hxs, hxn⟩ := own_row hO6.out k hlt6
                        have u1 := (hT6.out.cell (g := g) (o := k * 2) hg.2 (fun e => by have := EX.out _ e; omega)).trans e1
                        have u2 := (hT6.out.cell (g := g) (o := k * 2 + 1) hg.2 (fun e => by have := EX.out _ e; omega)).trans e2
                        have GX := hM.out x (List.mem_of_getElem? hx)
                        have nx : ∀ b, okx b → ¬ exA A (.slice va L.length vc) b := fun b hb e => by
                          have a1 := EX.out b e
                          rcases (hokx b hb).1 with h | h
                          · exact a1.2 h
                          · omega
                        have CA := Lib.hid (add_any N A wr L' M' av' hS6.out (by omega) x.1 (.slice q x.1.args.length d) okx (fun b hb => ⟨by
                            rcases (hokx b hb).1 with h | h
                            · exact (HK1.out b h).1
                            · exact Or.inr (by omega), Nat.lt_of_lt_of_le (hokx b hb).2 hT6.out.size, fun e => by
                            rcases hV6.out b e with h | h
                            · exact nx b hb (Or.inr (Or.inr h))
                            · have := (hokx b hb).2; omega⟩) (hxs.frame fun b o hb => hT6.out.cell (hokx b hb).2 (nx b hb)) hxn GX.1 GX.2.1 GX.2.2)
                        clear hx e1 e2 hokx hxs hxn GX nx
                        generalize x.1.nm = xn at *
                        generalize x.1.args.length = xa at *
                        go_wp2_with fail
                        refine CA.out.mono ?_
                        rintro e w7 ⟨rfl, L7, M7, av7, S7, hl7, hl8, T7, V7⟩
                        have SS7 := Lib.hid S7
                        have ho6 := hS6.out.own.1.lt
                        have TT7 := Lib.hid (Lt.trans2 hT6.out T7 (fun i e => by
                          rcases e with e | e | e
                          · exact Or.inl (Or.inl e)
                          · exact Or.inl (Or.inr (Or.inl e))
                          · exact (hV6.out i e).imp (fun h => Or.inr (Or.inr h)) id))
                        have VV7 : Hid (∀ i, av7.ownBlock = some i → (Value.slice _ L.length vc).ownBlock = some i ∨ wb.heap.size ≤ i) := Lib.hid (fun i e => (V7 i e).elim (fun h => hV6.out i h) fun h => Or.inr (Nat.le_trans hT6.out.size h))
                        clear S7 T7 V7 ho6 CA
                        go_wp2_with fail
                        go_roundw
                        case rel => exact ⟨k + 1, L7, M7, av7, by omega, by go_num, by omega, SS7, TT7, VV7⟩
                        case measure => simp [intOf]; omega
                      · obtain rfl : k = Lm.length := by omega
                        have OO : Hid (OS N A 10000000 w0 wr) := Lib.hid ⟨L', M', av', lf, hS6.out, hT6.out.has hH.out (fun e => by
                          rcases e with e | e | e
                          · omega
                          · omega
                          · have := AV.out _ e; omega), h0, h1, by omega, D6.out.trans (hT6.out.toBelow (by omega) fun i e => by
                          rcases e with e | e | e
                          · omega
                          · omega
                          · have := AV.out _ e; omega)⟩
                        go_wp2_with fail
                        go_roundw
                        case rel => exact ⟨(L.length : Int), rfl, by omega, by omega, OO⟩
                        case measure => simp [intOf]; omega
          · go_wp2_with fail
            refine bodyPost_ret (by simp [results, Tryz.results78, go_sem]; rfl) rfl ?_
            exact ⟨by simp, by rw [← HA.out]; exact DD.out⟩
        · have hi2 : ¬ ((L.length : Nat) : Int) ≤ 1000 := by omega
          by_cases hc : m < (L.length : Int)
          all_goals
            go_wp2_with fail
            refine bodyPost_ret (by simp [results, Tryz.results78, go_sem]; rfl) rfl ?_
            exact ⟨by simp, by rw [← HA.out]; exact DD.out⟩
end LihD
end Go.Proofs.YtihbnonbhelbmaaGreatDoor
/- gameplayerplain.SmallRules: it answers, and what it says yes to is small. Conditions: at most a thousand rules are asked for; small heads have short keys. -/
namespace Go.Proofs.YtihbnonbhelbmaaGreatDoor
open Go Go.RowKit
namespace SmrA
open Kit LexM TermM TermI TermN TermS TermU UniM UniK UniA UniD UniE UniG UniR LigM LigP LigG LigD LigQ LigE LigW LigV LigU LigX LigY LigZ
theorem klen_nm {t : Tm} : t.nm.size ≤ klen t := by
  obtain ⟨n, l⟩ := t
  simp only [klen, Tm.nm]
  omega
theorem gn_klen {N : Nat} (t : Tm) : klen t ≤ N → sizeT t ≤ 20 → GN N t := by
  induction t using Tm.ind with
  | h n l ih =>
    intro h1 h2
    have hk : n.size ≤ klen (.mk n l) := klen_nm (t := .mk n l)
    have hs := len_size l
    simp only [sizeT] at h2
    simp only [klen] at h1
    refine gn_mk (by simp only [klen] at hk; omega) (by omega) fun x hx => ih x hx ?_ ?_
    · have := klenL_mem hx; omega
    · have := size_mem hx; omega
theorem size_20 {t : Tm} (h : partsT 20 20 t ≤ 20) : sizeT t ≤ 20 := by
  have := (parts_size 20 20 t h).1
  omega
/-- A small rule. -/
def GR (r : Rl) : Prop := sizeT r.1 ≤ 20 ∧ r.2.length ≤ 8 ∧ ∀ x ∈ r.2, sizeT x.2 ≤ 20
/-- What SmallRules leaves. -/
def SmrQ (l : List Rl) (most : Nat) (w : World) (e : Ending) (w' : World) : Prop := ∃ b : Bool, e = .returned (.bool b) ∧ (b = true → l.length ≤ most ∧ ∀ r ∈ l, GR r) ∧ Below w.heap.size w w'
set_option maxRecDepth 100000 in
set_option maxHeartbeats 3200000 in
theorem rules_any (N : Nat) (h4 : 4 ≤ N) (hN : (N + 3) * 4000000 ≤ 4611686018427387904) (l : List Rl) (most : Nat) (hm : most ≤ 1000) (w : World) (lv : Value) (hl : RIn (· < w.heap.size) w l lv) (hk : ∀ r ∈ l, sizeT r.1 ≤ 20 → klen r.1 ≤ N) :
    Calls Tryz.prog 44 #[lv, .int .i64 most] w (SmrQ l most w) := by
  obtain ⟨lp, lc, rfl⟩ := hl.form
  have RL := Lib.hid (fun w' (k : Below w.heap.size w w') => hl.keep (w' := w') fun b o hb => k.cell (p := ⟨b, o, none⟩) hb)
  have CL := Lib.hid (fun (hll : l.length ≤ 1000) (hr : ∀ r ∈ l, GR r) w' (k : Below w.heap.size w w') => LihD.light_any N h4 hN l [] w' (.slice lp l.length lc) (.slice none 0 0) ((RL.out w' k).wide fun b hb => Nat.lt_of_lt_of_le hb k.size) (SlIn.none _ _) hll (Nat.zero_le _) (fun r hr' => ⟨gn_klen r.1 (hk r hr' (hr r hr').1) (hr r hr').1, (hr r hr').1, (hr r hr').2.1, (hr r hr').2.2⟩) (fun t ht => by cases ht))
  have GG : Hid ((∀ j r, j < l.length → l[j]? = some r → GR r) → ∀ r ∈ l, GR r) := Lib.hid (fun h r hr => by
    obtain ⟨j, hj⟩ := List.mem_iff_getElem?.1 hr
    exact h j r (List.getElem?_eq_some_iff.1 hj).1 hj)
  unfold SmrQ
  generalize hnl : l.length = nl at *
  have HNL := Lib.hid hnl
  clear hl hnl hk h4 hN
  go_enter Tryz.func44, Tryz.ntmps44
  by_cases hmo : most < nl
  · have hmi : ((most : Nat) : Int) < (nl : Int) := by omega
    go_wp2_with fail
    refine bodyPost_ret (v := .bool false) (by simp [results, Tryz.results44, go_sem]) rfl ?_
    exact ⟨false, rfl, (fun h => by cases h), Below.refl _ _⟩
  · have hmi : ¬ ((most : Nat) : Int) < (nl : Int) := by omega
    go_wp2_with fail
    go_loopw [13] (fun i wr => ∃ k : Nat, k ≤ nl ∧ i = .int .i64 k ∧ Hid (∀ j r, j < k → l[j]? = some r → GR r) ∧ Hid (Below w.heap.size w wr)) (fun i _ => nl - (intOf i).toNat)
    case atStart => exact ⟨0, Nat.zero_le _, rfl, Lib.hid (fun j r hj => absurd hj (by omega)), Lib.hid (Below.refl _ _)⟩
    case round =>
      obtain ⟨k, hk, rfl, hG, hD⟩ := hrel
      by_cases hlt : k < nl
      · obtain ⟨x, g, o, q, d, q2, d2, hx, rfl, hg, e1, e2, e3, hxs, hxn, hxl⟩ := rin_row (RL.out wr hD.out) k (by rw [HNL.out]; exact hlt)
        have hsz := hD.out.size
        have CS := Lib.hid (Sm20.small_any x.1 w.heap.size wr (.slice q x.1.args.length d) hsz hxs)
        have LX := Lib.hid (fun w' (kb : Below wr.heap.size wr w') => hxl.keep (w' := w') fun b o hb => kb.cell (p := ⟨b, o, none⟩) (Nat.lt_of_lt_of_le hb hsz))
        have HX := Lib.hid hx
        have S20 : Hid (partsT 20 20 x.1 ≤ 20 → sizeT x.1 ≤ 20) := Lib.hid size_20
        have NXT : Hid (GR x → ∀ j r, j < k + 1 → l[j]? = some r → GR r) := Lib.hid (fun h j r hj hr => by
          by_cases hjk : j < k
          · exact hG.out j r hjk hr
          · obtain rfl : j = k := by omega
            rw [hx] at hr
            cases hr
            exact h)
        obtain ⟨b1, hb1⟩ : ∃ b, decide (partsT 20 20 x.1 ≤ 20) = b := ⟨_, rfl⟩
        rw [hb1] at CS
        have HB1 := Lib.hid hb1
        have F1 := Lib.hid (fun w' (kb : Below wr.heap.size wr w') => (kb.cell (p := ⟨g, o + k * 3 + 1 + 1, none⟩) (show g < wr.heap.size by omega)).trans e3)
        clear hx hxs hxn hxl hb1
        generalize x.1.nm = xn at *
        generalize x.1.args.length = xa at *
        generalize hbl : x.2.length = bl at *
        have HBL := Lib.hid hbl
        clear hbl
        go_wp2_with fail
        refine CS.out.mono ?_
        rintro e w3 ⟨rfl, g3⟩
        have K3 := Lib.hid g3.1
        have D3 := Lib.hid (next0 hD.out g3.1)
        have f1 := (K3.out.cell (p := ⟨g, o + k * 3 + 1 + 1, none⟩) (show g < wr.heap.size by omega)).trans e3
        clear g3 CS e1 e2 e3
        cases b1
        · go_wp2_with fail
          refine bodyPost_ret (v := .bool false) (by simp [results, Tryz.results44, go_sem]) rfl ?_
          exact ⟨false, rfl, (fun h => by cases h), D3.out⟩
        · have P1 : Hid (sizeT x.1 ≤ 20) := Lib.hid (S20.out (by have := HB1.out; rw [decide_eq_true_eq] at this; exact this))
          clear HB1 S20
          by_cases h8 : 8 < bl
          · have h8i : (8 : Int) < (bl : Int) := by omega
            go_wp2_with fail
            refine bodyPost_ret (v := .bool false) (by simp [results, Tryz.results44, go_sem]) rfl ?_
            exact ⟨false, rfl, (fun h => by cases h), D3.out⟩
          · have h8i : ¬ (8 : Int) < (bl : Int) := by omega
            have U8 : Hid (bl ≤ 8) := Lib.hid (by omega)
            go_wp2_with fail
            clear h8i h8
            go_loopw [38] (fun i wt => ∃ m : Nat, m ≤ bl ∧ i = .int .i64 m ∧ Hid (∀ j y, j < m → x.2[j]? = some y → sizeT y.2 ≤ 20) ∧ Hid (Below wr.heap.size wr wt)) (fun i _ => bl - (intOf i).toNat)
            case atStart => exact ⟨0, Nat.zero_le _, rfl, Lib.hid (fun j r hj => absurd hj (by omega)), K3⟩
            case round =>
              clear f1
              obtain ⟨m, hm9, rfl, hY, hT⟩ := hrel
              by_cases hmlt : m < bl
              · obtain ⟨y, g5, o5, q5, d5, hy, rfl, hg5, v1, v2, v3, hys, hyn⟩ := lin_row (LX.out wr hT.out) m (by rw [HBL.out]; exact hmlt)
                have f1 := F1.out wr hT.out
                have hwt : w.heap.size ≤ wr.heap.size := Nat.le_trans hsz hT.out.size
                have CY := Lib.hid (Sm20.small_any y.2 w.heap.size wr (.slice q5 y.2.args.length d5) hwt hys)
                obtain ⟨b5, hb5⟩ : ∃ b, decide (partsT 20 20 y.2 ≤ 20) = b := ⟨_, rfl⟩
                rw [hb5] at CY
                have NY : Hid (b5 = true → ∀ j z, j < m + 1 → x.2[j]? = some z → sizeT z.2 ≤ 20) := Lib.hid (fun h j z hj hz => by
                  by_cases hjm : j < m
                  · exact hY.out j z hjm hz
                  · obtain rfl : j = m := by omega
                    rw [hy] at hz
                    cases hz
                    rw [h, decide_eq_true_eq] at hb5
                    exact size_20 hb5)
                clear hy hys hyn hb5 v1
                generalize y.2.nm = yn at *
                generalize y.2.args.length = ya at *
                go_wp2_with fail
                refine CY.out.mono ?_
                rintro e w6 ⟨rfl, g6⟩
                have T6 := Lib.hid (next0 hT.out g6.1)
                have D6 := Lib.hid (next0 hD.out T6.out)
                clear g6 CY
                cases b5
                · go_wp2_with fail
                  refine bodyPost_ret (v := .bool false) (by simp [results, Tryz.results44, go_sem]) rfl ?_
                  exact ⟨false, rfl, (fun h => by cases h), D6.out⟩
                · have NZ := Lib.hid (NY.out rfl)
                  go_wp2_with fail
                  go_roundw
                  case rel => exact ⟨m + 1, by omega, by go_num, NZ, T6⟩
                  case measure => simp [intOf]; omega
              · obtain rfl : m = bl := by omega
                have GX : Hid (GR x) := Lib.hid ⟨P1.out, by rw [HBL.out]; exact U8.out, fun y hy => by
                  obtain ⟨j, hj⟩ := List.mem_iff_getElem?.1 hy
                  exact hY.out j y (by rw [← HBL.out]; exact (List.getElem?_eq_some_iff.1 hj).1) hj⟩
                have NX := Lib.hid (NXT.out GX.out)
                have D6 := Lib.hid (next0 hD.out hT.out)
                go_wp2_with fail
                go_roundw
                case rel => exact ⟨k + 1, by omega, by go_num, NX, D6⟩
                case measure => simp [intOf]; omega
      · obtain rfl : k = nl := by omega
        have CR := Lib.hid (CL.out (by omega) (GG.out (by exact hG.out)) wr hD.out)
        go_wp2_with fail
        refine CR.out.mono ?_
        rintro e w5 ⟨⟨b, rfl⟩, k5⟩
        have D5 := Lib.hid (next0 hD.out k5)
        have GF := Lib.hid (GG.out hG.out)
        go_wp2_with fail
        refine bodyPost_ret (v := .bool b) (by simp [results, Tryz.results44, go_sem]) rfl ?_
        exact ⟨b, rfl, fun _ => ⟨by omega, GF.out⟩, D5.out⟩
end SmrA
end Go.Proofs.YtihbnonbhelbmaaGreatDoor
/- small of the law: one rule is asked for. Conditions: as SmallRules. -/
namespace Go.Proofs.YtihbnonbhelbmaaGreatDoor
open Go Go.RowKit
namespace UnqE
open LexM TermM TermI Kit TermN TermU UniK UniM LigM LigY LigZ SmrA
/-- What small leaves. -/
def SmlQ (r : Rl) (w : World) (e : Ending) (w' : World) : Prop := ∃ b : Bool, e = .returned (.bool b) ∧ (b = true → GR r) ∧ Below w.heap.size w w'
theorem rin_one {ok : Nat → Prop} {w : World} {g : Nat} (r : Rl) (hv lv : Value) (hH : Has w g #[.string r.1.nm, hv, lv]) (hs : SlIn ok w r.1.args hv) (hl : LIn ok w r.2 lv) (hn : r.1.nm.size ≤ maxLen) (hg : ok g) : RIn ok w [r] (.slice (some ⟨g, 0, none⟩) 1 1) := by
  refine ⟨[(r, hv, lv)], rfl, some ⟨g, 0, none⟩, 1, rfl, Nat.le_refl _, by unfold maxLen; omega, fun x hx => ?_, fun _ => ⟨g, 0, rfl, hg, fun i x hx j u hu => ?_⟩⟩
  · obtain rfl := List.mem_singleton.1 hx
    exact ⟨hs, hn, hl⟩
  · match i, hx with
    | 0, hx =>
      simp at hx
      subst hx
      rw [show 0 + 0 * 3 + j = j by omega, hH.cell]
      match j, hu with
      | 0, hu => exact hu
      | 1, hu => exact hu
      | 2, hu => exact hu
      | j + 3, hu => simp [KR] at hu
    | i + 1, hx => simp at hx
set_option maxRecDepth 100000 in
set_option maxHeartbeats 1600000 in
theorem small_any (N : Nat) (h4 : 4 ≤ N) (hN : (N + 3) * 4000000 ≤ 4611686018427387904) (r : Rl) (w : World) (hv lv : Value) (hs : SlIn (· < w.heap.size) w r.1.args hv) (hl : LIn (· < w.heap.size) w r.2 lv) (hn : r.1.nm.size ≤ maxLen) (hk : sizeT r.1 ≤ 20 → klen r.1 ≤ N) :
    Calls Tryz.prog 19 #[.agg #[.string r.1.nm, hv, lv]] w (SmlQ r w) := by
  obtain ⟨p, c, rfl⟩ := hs.form
  obtain ⟨lp, lc, rfl⟩ := hl.form
  obtain ⟨W2, hW2⟩ : ∃ W2, W2 = (w.alloc (.cells #[.string r.1.nm, .slice p r.1.args.length c, .slice lp r.2.length lc] 34)).alloc (.cells #[.string r.1.nm, .slice p r.1.args.length c, .slice lp r.2.length lc] 34) := ⟨_, rfl⟩
  have B2 : Hid (Below w.heap.size w W2) := Lib.hid (by rw [hW2]; exact next0 (below_alloc _ _) (below_alloc _ _))
  have H2 : Has W2 (w.heap.size + 1) #[.string r.1.nm, .slice p r.1.args.length c, .slice lp r.2.length lc] := by rw [hW2]; exact Has.new1 w _ _ _
  have hs2 : w.heap.size + 2 ≤ W2.heap.size := by rw [hW2]; simp
  have CS := Lib.hid (rules_any N h4 hN [r] 1 (by omega) W2 _ (rin_one (ok := (· < W2.heap.size)) r _ _ H2 ((hs.deep B2.out (Nat.le_refl _)).weaken fun b hb => by omega) ((hl.keep fun b o hb => B2.out.cell (p := ⟨b, o, none⟩) hb).wide fun b hb => by omega) hn (by omega)) (fun x hx hz => by obtain rfl := List.mem_singleton.1 hx; exact hk hz))
  have HW1 : Hid (Has (w.alloc (.cells #[.string r.1.nm, .slice p r.1.args.length c, .slice lp r.2.length lc] 34)) w.heap.size #[.string r.1.nm, .slice p r.1.args.length c, .slice lp r.2.length lc]) := Lib.hid (Has.new _ _ _)
  clear hs hl H2
  unfold SmrQ at CS
  generalize r.1.nm = rn at *
  generalize r.1.args.length = ra at *
  generalize r.2.length = rb at *
  go_enter Tryz.func19, Tryz.ntmps19
  go_upto_region 1 with fail
  obtain ⟨f1, f2, f3, f4, f5, f6, f7⟩ := UnpP.has3 HW1.out
  go_wp2_with fail
  rw [← hW2]
  refine CS.out.mono ?_
  rintro e w3 ⟨b, rfl, hb, k3⟩
  have D3 := Lib.hid (next0 B2.out k3)
  have HB := Lib.hid (fun h => (hb h).2 r (by simp))
  clear hb k3
  go_wp2_with fail
  refine bodyPost_ret (v := .bool b) (by simp [results, Tryz.results19, go_sem]) rfl ?_
  exact ⟨b, rfl, HB.out, D3.out⟩
end UnqE
end Go.Proofs.YtihbnonbhelbmaaGreatDoor
/- The reference's collect: the variables of a term, appended to a row of the call's own where they are new. Condition: at most three million names. -/
namespace Go.Proofs.YtihbnonbhelbmaaGreatDoor
open Go Go.RowKit
namespace UnrF
open LexM TermM TermI Kit TermN TermU TermL TermE TermF UniK UniM UniA UniD UniE UniG
/-- The list with the variables of a term that are new to it. -/
def collX (xs : List ByteArray) (t : Tm) : List ByteArray := (leavesT t).foldl addV xs
def collXs (xs : List ByteArray) (l : List Tm) : List ByteArray := (leavesL l).foldl addV xs
theorem colls_next {xs : List ByteArray} {l : List Tm} {k : Nat} {t : Tm} (h : l[k]? = some t) : collXs xs (l.take (k + 1)) = collX (collXs xs (l.take k)) t := by
  unfold collXs collX
  rw [leaves_next l k t h, List.foldl_append]
theorem colls_nil (xs : List ByteArray) : collXs xs [] = xs := rfl
theorem addV_le (M : List ByteArray) (s : ByteArray) : (addV M s).length ≤ M.length + 1 := by
  unfold addV
  split <;> simp
theorem fold_le : ∀ (ys M : List ByteArray), (ys.foldl addV M).length ≤ M.length + ys.length
  | [], M => by simp
  | a :: r, M => by
    have h := fold_le r (addV M a)
    have h2 := addV_le M a
    simp only [List.foldl_cons, List.length_cons]
    omega
theorem coll_le (xs : List ByteArray) (t : Tm) : (collX xs t).length ≤ xs.length + sizeT t := by
  have h1 := fold_le (leavesT t) xs
  have h2 := leaves_len t
  unfold collX
  omega
theorem colls_le (xs : List ByteArray) (l : List Tm) : (collXs xs l).length ≤ xs.length + sizeL l := by
  have h1 := fold_le (leavesL l) xs
  have h2 := leavesL_len l
  unfold collXs
  omega
theorem has_mem {xs : List ByteArray} {s : ByteArray} (h : s ∈ xs) : hasB xs s = true := by
  unfold hasB
  exact List.any_eq_true.2 ⟨s, h, by simp⟩
theorem has_none {xs : List ByteArray} {s : ByteArray} (h : ∀ x ∈ xs, x ≠ s) : hasB xs s = false := by
  unfold hasB
  rw [List.any_eq_false]
  intro x hx e
  exact h x hx (Go.WideShapes.bytes_inj (by simpa using e))
theorem coll_old {xs : List ByteArray} {n : ByteArray} (hh : hasB xs n = true) : collX xs (.mk n []) = xs := by
  simp [collX, leavesT, addV, hh]
theorem coll_new {xs : List ByteArray} {n : ByteArray} (hv : varB n = true) (hh : hasB xs n = false) : collX xs (.mk n []) = xs ++ [n] := by
  simp [collX, leavesT, addV, hh, hv]
theorem coll_fun {xs : List ByteArray} {n : ByteArray} {l : List Tm} (h : isV (.mk n l) = false) : collX xs (.mk n l) = collXs xs l := by
  unfold isV at h
  cases l with
  | nil =>
    simp [Tm.args, Tm.nm] at h
    simp [collX, collXs, leavesT, leavesL, addV, h]
  | cons a r => simp [collX, collXs, leavesT]
/-- What collect leaves: the list with what is new, in the same row or a new one; nothing else has turned. -/
def ColQ (base : Nat) (v : Value) (ys : List ByteArray) (w : World) (e : Ending) (w' : World) : Prop :=
  ∃ v', e = .returned v' ∧ w'.ownsRow base 9 1 v' ys.length (strs ys) ∧ w.grownBy w' v.ownBlock ∧ ∀ k, v'.ownBlock = some k → v.ownBlock = some k ∨ w.heap.size ≤ k
theorem gb_refl (w : World) (row : Option Nat) : w.grownBy w row := ⟨rfl, rfl, rfl, Nat.le_refl _, fun _ _ _ => rfl⟩
theorem gb_trans {a b c : World} {row row' : Option Nat} (h : a.grownBy b row) (k : b.grownBy c row') (hr : ∀ j, row' = some j → row = some j ∨ a.heap.size ≤ j) : a.grownBy c row :=
  ⟨k.os.trans h.os, k.tape.trans h.tape, k.output.trans h.output, Nat.le_trans h.size k.size, fun i hi hne => (k.block i (Nat.lt_of_lt_of_le hi h.size) (fun e => by rcases hr i e.symm with e' | e'; exact hne e'.symm; omega)).trans (h.block i hi hne)⟩
theorem gb_of {a b : World} (h : Below a.heap.size a b) (row : Option Nat) : a.grownBy b row := ⟨h.os, h.tape, h.output, h.size, fun i hi _ => h.block i hi⟩
theorem gb_base {a b : World} {row : Option Nat} {base : Nat} (h : a.grownBy b row) (hb : base ≤ a.heap.size) (hr : ∀ j, row = some j → base ≤ j) : Below base a b :=
  ⟨h.os, h.tape, h.output, h.size, fun i hi => h.block i (by omega) (fun e => by have := hr i e.symm; omega)⟩
def CollT (t : Tm) : Prop := ∀ (B : Nat) (w : World) (base : Nat) (v sv : Value) (xs : List ByteArray), w.ownsRow base 9 1 v xs.length (strs xs) → base ≤ w.heap.size → B ≤ base → SlIn (· < B) w t.args sv → t.nm.size ≤ maxLen → xs.length + sizeT t ≤ 3000000 →
  Calls Tryz.prog 97 #[v, .agg #[.string t.nm, sv]] w (ColQ base v (collX xs t) w)
theorem isV_leaf {n : ByteArray} {l : List Tm} (h : isV (.mk n l) = true) : l = [] ∧ varB n = true := by
  unfold isV at h
  simp only [Bool.and_eq_true, List.isEmpty_iff, Tm.args, Tm.nm] at h
  exact h
set_option maxRecDepth 100000 in
set_option maxHeartbeats 3200000 in
theorem coll_leaf (n : ByteArray) (hv : isV (.mk n []) = true) (w : World) (base : Nat) (v : Value) (p : Option Addr) (c : Nat) (xs : List ByteArray) (hown : w.ownsRow base 9 1 v xs.length (strs xs)) (hbase : base ≤ w.heap.size) (hn : n.size ≤ maxLen) (hz : xs.length ≤ 3000000) :
    Calls Tryz.prog 97 #[v, .agg #[.string n, .slice p 0 c]] w (ColQ base v (collX xs (.mk n [])) w) := by
  obtain ⟨i0, hi, hz0, hz1, hz2⟩ := info_parts Tryz.info9s
  obtain ⟨W1, hW1⟩ : ∃ W1, W1 = w.alloc (.cells #[.string n, .slice p 0 c] 27) := ⟨_, rfl⟩
  have G0 : Hid (Below w.heap.size w W1) := Lib.hid (by rw [hW1]; exact below_alloc w _)
  have H1 : Hid (Has W1 w.heap.size #[.string n, .slice p 0 c]) := Lib.hid (by rw [hW1]; exact Has.new _ _ _)
  have VR := Lib.hid (fun w' => show Calls Tryz.prog 47 #[.agg #[.string n, .slice p 0 c]] w' (fun e w'' => e = .returned (.bool (isV (.mk n []))) ∧ Gr w' w'') from rvar_t (.mk n []) p c w' hn)
  rw [hv] at VR
  have hvn := (isV_leaf hv).2
  have HO : Hid (W1.ownsRow base 9 1 v xs.length (strs xs)) := Lib.hid (own_below hown G0.out)
  have VL := Lib.hid (fun k hk => show base ≤ k ∧ k < w.heap.size from hown.lt k hk)
  have Q1 : Hid (∀ k x, xs[k]? = some x → x = n → collX xs (.mk n []) = xs) := Lib.hid (fun k x hx e => by subst e; exact coll_old (has_mem (List.mem_of_getElem? hx)))
  have Q2 : Hid ((∀ j x, j < xs.length → xs[j]? = some x → x ≠ n) → collX xs (.mk n []) = xs ++ [n]) := Lib.hid (fun hh => coll_new hvn (has_none (fun x hx e => by
    obtain ⟨j, hj, hx2⟩ := List.mem_iff_getElem.1 hx
    exact hh j x hj (by simp [hj, hx2]) e)))
  have A1 : xs.length + 1 ≤ maxLen := by unfold maxLen; omega
  have A2 : (xs.length + 1) * 16 ≤ 140737488355328 := by omega
  obtain ⟨a9, c9, rfl⟩ := row_form hown
  unfold ColQ
  generalize collX xs (.mk n []) = R at *
  have hbs := hbase
  clear hv hvn hown hn hbase
  have HNN : Hid (xs.length = xs.length) := Lib.hid rfl
  generalize hnl : xs.length = m at *
  have HN := Lib.hid hnl
  clear hnl HNN
  go_enter Tryz.func97, Tryz.ntmps97
  go_upto_region 1 with fail
  rw [← hW1]
  obtain ⟨y1, y2, _⟩ := H1.out.two
  clear hW1
  go_wp2_with fail
  refine (VR.out _).mono ?_
  rintro e w2 ⟨rfl, g2⟩
  have D2 := Lib.hid (next0 G0.out g2.1)
  have H2 := Lib.hid (H1.out.step0 g2.1)
  have O2 := Lib.hid (own_below HO.out g2.1)
  have hs2 : w.heap.size + 1 ≤ w2.heap.size := H2.out.lt
  clear y1 y2 g2 HO
  go_wp2_with fail
  go_loopw [5] (fun i wr => ∃ k : Nat, k ≤ m ∧ i = .int .i64 k ∧ Hid (∀ j x, j < k → xs[j]? = some x → x ≠ n) ∧ Hid (Below w2.heap.size w2 wr)) (fun i _ => m - (intOf i).toNat)
  case atStart => exact ⟨0, Nat.zero_le _, rfl, Lib.hid (fun j x hj => absurd hj (Nat.not_lt_zero _)), Lib.hid (Below.refl _ _)⟩
  case round =>
    obtain ⟨k, hk, rfl, hA, hg⟩ := hrel
    obtain ⟨y1, y2, _⟩ := (H2.out.step0 hg.out).two
    have D5 := Lib.hid (next0 D2.out hg.out)
    have O5 := Lib.hid (own_below O2.out hg.out)
    have hs5 := hg.out.size
    by_cases hlt : k < m
    · obtain ⟨x, hx⟩ : ∃ x, xs[k]? = some x := ⟨xs[k]'(by rw [HN.out]; exact hlt), by simp⟩
      obtain ⟨g, cap, hav, hcell, _, _⟩ := row_str (xs := xs) (by rw [HN.out]; exact O5.out) hx
      rw [HN.out] at hav
      injection hav with hav1 _ hav2
      subst hav1 hav2
      have hk0 : (0 : Int) ≤ (k : Int) := by omega
      have hkm : (k : Int) < (m : Int) := by omega
      obtain ⟨z, hz⟩ : ∃ z, (x.toList == n.toList) = z := ⟨_, rfl⟩
      have HZ : Hid (z = true ↔ x = n) := Lib.hid (by rw [← hz, ByteArray.toList_eq, ByteArray.toList_eq, beq_iff_eq]; exact ⟨Go.WideShapes.bytes_inj, fun h => by rw [h]⟩)
      have HX := Lib.hid hx
      clear hx
      go_upto_region 5 with fail
      go_cut [21] (fun s21 wx => s21 = .bool z ∧ Hid (Below wr.heap.size wr wx))
      case first =>
        go_region
        all_goals
          go_wp2_with fail
          go_meet
          exact ⟨rfl, Lib.hid (Below.refl _ _).drew⟩
      case rest =>
        obtain ⟨rfl, G3⟩ := hcut
        have D6 := Lib.hid (next0 D5.out G3.out)
        have O6 := Lib.hid (own_below O5.out G3.out)
        have hg6 := Lib.hid (next0 hg.out G3.out)
        cases z
        · have HA2 : Hid (∀ j y, j < k + 1 → xs[j]? = some y → y ≠ n) := Lib.hid (fun j y hj hy => by
            by_cases e : j = k
            · subst e; rw [HX.out] at hy; injection hy with hy; subst hy; exact fun h => Bool.noConfusion (HZ.out.2 h)
            · exact hA.out j y (by omega) hy)
          go_wp2_with fail
          go_roundw
          case rel => exact ⟨k + 1, by omega, by go_num, HA2, hg6⟩
          case measure => simp [intOf]; omega
        · have HF := Lib.hid (Q1.out k x HX.out (HZ.out.1 rfl))
          clear HX HZ Q1 Q2 hA
          go_wp2_with fail
          go_ret
          refine ⟨_, rfl, ?_, gb_of D6.out _, fun k hk => Or.inl hk⟩
          rw [HF.out, HN.out]
          exact O6.out
    · obtain rfl : k = m := by omega
      have HF := Lib.hid (Q2.out (fun j x hj hx => hA.out j x hj hx))
      have A3 : base ≤ (wr.alloc (.cells #[.string n] 9)).heap.size := by simp; omega
      clear Q1 Q2 hA
      go_wp2_with (at_builtin; refine wpList_append_lies _ rfl _ _ 73 rfl base 9 i0 (.string ⟨#[]⟩) 1 16 Tryz.underlying73 hi hz0 hz1 hz2 rfl (by decide) (.slice a9 k c9) k (strs xs) rfl (O5.out.alloc _) ⟨wr.heap.size, 0, none⟩ 1 1 [.string n] rfl rfl (World.news_of_block (heap_alloc_new wr _)) (one1 _) (by decide) A1 A2 A3 (wr.heap.size + 1) (by simp) ?_; intro g4 cap4 w4 hown4 hgrow4 hat4 hlt4)
      have G6 := Lib.hid (gb_trans (row := (Value.slice a9 k c9).ownBlock) (gb_of (next0 D5.out (below_alloc wr (.cells #[.string n] 9))) _) hgrow4 (fun j hj => Or.inl hj))
      have O6 : Hid (w4.ownsRow base 9 1 (.slice (some ⟨g4, 0, none⟩) (k + 1) cap4) R.length (strs R)) := Lib.hid (by
        rw [HF.out, List.length_append, HN.out]
        unfold strs at hown4 ⊢
        rw [List.map_append]
        exact hown4)
      have V6 : Hid (∀ j, (Value.slice (some ⟨g4, 0, none⟩) (k + 1) cap4).ownBlock = some j → (Value.slice a9 k c9).ownBlock = some j ∨ w.heap.size ≤ j) := Lib.hid (fun j hj => by
        have e' : g4 = j := by simpa [Value.ownBlock] using hj
        subst e'
        rcases hat4 with h | h
        · exact Or.inl h
        · exact Or.inr (by omega))
      clear hown4 hgrow4 hat4 y1 y2
      go_wp2_with fail
      go_ret
      exact ⟨_, rfl, O6.out, G6.out, V6.out⟩
set_option maxRecDepth 100000 in
set_option maxHeartbeats 3200000 in
theorem coll_any (t : Tm) : CollT t := by
  induction t using Tm.ind with
  | h n l ih =>
    intro B w base v sv xs hown hbase hB h hn hz
    dsimp only [Tm.args, Tm.nm] at h hn ⊢
    obtain ⟨p, c, rfl, _, hc, hm, hR⟩ := h.row
    cases hv : isV (.mk n l)
    · have VR := Lib.hid (fun w' => show Calls Tryz.prog 47 #[.agg #[.string n, .slice p l.length c]] w' (fun e w'' => e = .returned (.bool (isV (.mk n l))) ∧ Gr w' w'') from rvar_t (.mk n l) p c w' hn)
      rw [hv] at VR
      rw [coll_fun hv]
      obtain ⟨W1, hW1⟩ : ∃ W1, W1 = w.alloc (.cells #[.string n, .slice p l.length c] 27) := ⟨_, rfl⟩
      have G0 : Hid (Below w.heap.size w W1) := Lib.hid (by rw [hW1]; exact below_alloc w _)
      have H1 : Hid (Has W1 w.heap.size #[.string n, .slice p l.length c]) := Lib.hid (by rw [hW1]; exact Has.new _ _ _)
      have hz' : xs.length + sizeL l ≤ 2999999 := by simp only [sizeT] at hz; omega
      have hlf : l.length ≤ 3000000 := by have := len_size l; omega
      have HR := Lib.hid hR
      have HB := Lib.hid hB
      have NX : Hid (∀ k t, l[k]? = some t → collXs xs (l.take (k + 1)) = collX (collXs xs (l.take k)) t) := Lib.hid (fun k t h => colls_next h)
      have IH : Hid (∀ k t, l[k]? = some t → ∀ (w' : World) (v sv : Value), w'.ownsRow base 9 1 v (collXs xs (l.take k)).length (strs (collXs xs (l.take k))) → base ≤ w'.heap.size → SlIn (· < B) w' t.args sv → t.nm.size ≤ maxLen →
          Calls Tryz.prog 97 #[v, .agg #[.string t.nm, sv]] w' (ColQ base v (collX (collXs xs (l.take k)) t) w')) := Lib.hid (fun k t hk w' v sv ho hb hs hn => by
        refine ih t (List.mem_of_getElem? hk) B w' base v sv _ ho hb hB hs hn ?_
        have e := size_next l k t hk
        have h1 := sizeL_take l (k + 1)
        have h2 := colls_le xs (l.take k)
        omega)
      have FL : Hid (collXs xs (l.take l.length) = collXs xs l) := Lib.hid (by simp)
      have VL := Lib.hid (fun k hk => show base ≤ k ∧ k < w.heap.size from hown.lt k hk)
      have HO : Hid (W1.ownsRow base 9 1 v (collXs xs (l.take 0)).length (strs (collXs xs (l.take 0)))) := Lib.hid (by rw [List.take_zero, colls_nil]; exact own_below hown G0.out)
      generalize hlm : l.length = m at *
      have HM := Lib.hid hlm
      have hbs := hbase
      clear ih hR h hown hlm hz hz' hB hc hm hn hv hbase
      unfold ColQ at IH ⊢
      go_enter Tryz.func97, Tryz.ntmps97
      go_upto_region 1 with fail
      rw [← hW1]
      obtain ⟨y1, y2, _⟩ := H1.out.two
      clear hW1
      go_wp2_with fail
      refine (VR.out _).mono ?_
      rintro e w2 ⟨rfl, g2⟩
      have D2 : Hid (w.grownBy w2 v.ownBlock) := Lib.hid (gb_of (next0 G0.out g2.1) _)
      have H2 := Lib.hid (H1.out.step0 g2.1)
      have O2 := Lib.hid (own_below HO.out g2.1)
      have V2 : Hid (∀ j, v.ownBlock = some j → v.ownBlock = some j ∨ w.heap.size + 1 ≤ j) := Lib.hid (fun j h => Or.inl h)
      clear y1 y2 g2 HO
      go_wp2_with fail
      go_loopw [0, 6] (fun u i wr => ∃ k : Nat, k ≤ m ∧ i = .int .i64 k ∧ Hid (wr.ownsRow base 9 1 u (collXs xs (l.take k)).length (strs (collXs xs (l.take k)))) ∧ Hid (w.grownBy wr v.ownBlock) ∧ Hid (Has wr w.heap.size #[.string n, .slice p m c]) ∧ Hid (∀ j, u.ownBlock = some j → v.ownBlock = some j ∨ w.heap.size + 1 ≤ j)) (fun _ i _ => m - (intOf i).toNat)
      case atStart => exact ⟨0, Nat.zero_le _, rfl, O2, D2, H2, V2⟩
      case round =>
        obtain ⟨k, hk, rfl, hO, hD, hX, hV⟩ := hrel
        obtain ⟨y1, y2, _⟩ := hX.out.two
        have DB : Hid (Below base w wr) := Lib.hid (gb_base hD.out hbs (fun j hj => (VL.out j hj).1))
        have hsr : w.heap.size + 1 ≤ wr.heap.size := hX.out.lt
        by_cases hlt : k < m
        · obtain ⟨t, b, o, q, d, ht, rfl, hb, c1, c2, hs, hts⟩ := (Row.deep HR.out DB.out HB.out) k (by rw [HM.out]; exact hlt)
          have NW := Lib.hid (NX.out k t ht)
          have IT := Lib.hid (IH.out k t ht wr _ _ hO.out (by omega) hs hts)
          clear ht hs hts
          rw [← NW.out] at IT
          clear NW
          generalize t.nm = tn at *
          generalize t.args.length = ta at *
          go_wp2_with fail
          refine IT.out.mono ?_
          rintro e w3 ⟨v3, rfl, ho3, hg3, hv3⟩
          have O3 := Lib.hid ho3
          have D3 := Lib.hid (gb_trans hD.out hg3 (fun j hj => (hV.out j hj).imp id (fun h => by omega)))
          have X3 := Lib.hid (Has.grown hX.out hg3 (fun e => by rcases hV.out _ e with h | h; have := (VL.out _ h).2; omega; omega))
          have V3 : Hid (∀ j, v3.ownBlock = some j → v.ownBlock = some j ∨ w.heap.size + 1 ≤ j) := Lib.hid (fun j hj => by
            rcases hv3 j hj with h | h
            · exact hV.out j h
            · exact Or.inr (by omega))
          clear ho3 hg3 hv3 IT y1 y2
          go_wp2_with fail
          go_roundw
          case rel => exact ⟨k + 1, by omega, by go_num, O3, D3, X3, V3⟩
          case measure => simp [intOf]; omega
        · obtain rfl : k = m := by omega
          have hO2 := hO.out
          rw [FL.out] at hO2
          have hO3 := Lib.hid hO2
          clear hO2
          go_wp2_with fail
          go_ret
          exact ⟨_, rfl, hO3.out, hD.out, fun j hj => (hV.out j hj).imp id (fun h => by omega)⟩
    · obtain ⟨rfl, _⟩ := isV_leaf hv
      exact coll_leaf n hv w base v p c xs hown hbase hn (by omega)
end UnrF
end Go.Proofs.YtihbnonbhelbmaaGreatDoor
/- The reference's Apply of substitutions by terms without arguments: what comes back lies in new blocks. Conditions: the substitution binds variables alone; terms of at most a million parts. Made by genrapply0.py out of UniH. -/
namespace Go.Proofs.YtihbnonbhelbmaaGreatDoor
open Go Go.RowKit
namespace UnrI
open LexM TermM TermI Kit TermN TermU UniK UniM UniA UniC UniD UniE UniG UniH
theorem slin_any {ok ok' : Nat → Prop} {w w' : World} {l : List Tm} {v : Value} (hl : l = []) (h : SlIn ok w l v) : SlIn ok' w' l v := by
  cases h with
  | mk p c l V b o hp hn hc hm h1 h2 =>
    subst hl
    exact .mk p c [] (fun _ => undef) 0 0 (fun h => absurd rfl h) hn hc hm (fun i t h => by simp at h) (fun i t h => by simp at h)
theorem look_leaf {s : List Bd} (hF : ∀ b ∈ s, b.2.args = []) {n : ByteArray} {u : Tm} (h : lookS s n = some u) : u.args = [] := by
  unfold lookS at h
  obtain ⟨b, h1, h2⟩ := Option.map_eq_some_iff.1 h
  rw [← h2]
  exact hF b (List.mem_of_find?_eq_some h1)
set_option maxRecDepth 100000 in
set_option maxHeartbeats 6400000 in
theorem rapply_var0 (s : List Bd) (hF : ∀ b ∈ s, b.2.args = []) (n : ByteArray) (B : Nat) (w : World) (sv : Value) (p : Option Addr) (c : Nat) (hB : B ≤ w.heap.size) (hs : SIn (· < B) w s sv) (h : SlIn (· < B) w [] (.slice p 0 c)) (hn : n.size ≤ maxLen) (hv : isV (.mk n []) = true) :
    Calls Tryz.prog 21 #[sv, .agg #[.string n, .slice p 0 c]] w (RApR 0 ((lookS s n).getD (.mk n [])) w) := by
  have CV := Lib.hid (fun w' => rvar_t (.mk n []) p c w' hn)
  rw [hv] at CV
  dsimp only [Tm.nm, Tm.args, List.length_nil] at CV
  have CL := Lib.hid (fun w' (k : Below w.heap.size w w') => rlookup_any s n B w' sv (Nat.le_trans hB k.size) (hs.deep k hB))
  obtain ⟨W2, hW2⟩ : ∃ W2, W2 = (w.alloc (.cells #[.string n, .slice p 0 c] 27)).alloc (.cells #[.string ⟨#[]⟩, .slice none 0 0] 27) := ⟨_, rfl⟩
  have G2 : Gr w W2 := by rw [hW2]; exact (Gr.alloc _ _).more _
  have hz2w : w.heap.size + 2 ≤ W2.heap.size := by rw [hW2]; simp
  have H2 : Hid (Has W2 w.heap.size #[.string n, .slice p 0 c]) := Lib.hid (by rw [hW2]; exact (Has.new w _ _).alloc _)
  have E2 : Hid (Has W2 (w.heap.size + 1) #[.string ⟨#[]⟩, .slice none 0 0]) := Lib.hid (by rw [hW2]; exact Has.new1 w _ _ _)
  have HS := Lib.hid (fun (w' : World) (k : Below w.heap.size w w') => h.deep k hB)
  have GG := Lib.hid G2
  have HN := Lib.hid hn
  have HU := Lib.hid (fun u (hu : lookS s n = some u) => look_leaf hF hu)
  clear h hs hv G2 hn hF
  generalize lookS s n = o9 at *
  unfold RLkR at CL
  unfold RApR
  obtain ⟨y1, y2, y3, y4, y5⟩ := H2.out.two
  go_enter Tryz.func21, Tryz.ntmps21
  go_upto_region 1 with fail
  rw [← hW2]
  clear hW2
  go_wp2_with fail
  refine (CV.out _).mono ?_
  rintro e w3 ⟨rfl, g3⟩
  have D3 := Lib.hid (next0 GG.out.1 g3.1)
  have H3 := Lib.hid (H2.out.step0 g3.1)
  have E3 := Lib.hid (E2.out.step0 g3.1)
  have hz3 : w.heap.size + 2 ≤ w3.heap.size := Nat.le_trans hz2w g3.1.size
  clear y1 y2 y3 y4 y5 CV g3 H2 E2
  obtain ⟨y1, y2, y3, y4, y5⟩ := H3.out.two
  go_wp2_with fail
  refine (CL.out _ D3.out).mono ?_
  rintro e w4 ⟨u, q, d, f, rfl, hc, hS, hnu, hb⟩
  have D4 := Lib.hid (next0 D3.out hb)
  have H4 := Lib.hid (H3.out.step0 hb)
  have E4 := Lib.hid (E3.out.step0 hb)
  have hz4 : w.heap.size + 2 ≤ w4.heap.size := Nat.le_trans hz3 hb.size
  have S4 := Lib.hid hS
  have N4 := Lib.hid hnu
  have HC := Lib.hid hc
  clear y1 y2 y3 y4 y5 CL hb D3 H3 E3 hS hnu hc
  obtain ⟨z1, z2, z3, z4, z5⟩ := E4.out.two
  obtain ⟨y1, y2, y3, y4, y5⟩ := H4.out.two
  rcases HC.out with ⟨ho, rfl⟩ | ⟨ho, hu, rfl⟩
  · subst ho
    clear HC HS HN
    obtain ⟨r1, r2, _⟩ := (((E4.out.set 0 (.string u.nm)).set 1 (.slice q u.args.length d)).alloc (.cells #[.string u.nm, .slice q u.args.length d] 27)).two
    go_wp2_with fail
    refine bodyPost_ret (v := .agg #[.string u.nm, .slice q u.args.length d]) (by simp [results, Tryz.results21, go_sem, r1, r2]) rfl ?_
    exact ⟨q, d, rfl, slin_any (HU.out u rfl) S4.out, N4.out, below_ret D4.out (by omega) _ _ _⟩
  · subst ho
    have S5 := Lib.hid (HS.out _ D4.out)
    clear HC S4 N4
    obtain ⟨r1, r2, _⟩ := (((E4.out.set 0 (.string n)).set 1 (.slice p 0 c)).alloc (.cells #[.string u.nm, .slice q u.args.length d] 27)).two
    subst hu
    go_wp2_with fail
    refine bodyPost_ret (v := .agg #[.string n, .slice p 0 c]) (by simp [results, Tryz.results21, go_sem, r1, r2]) rfl ?_
    exact ⟨p, c, rfl, slin_any rfl S5.out, HN.out, below_ret D4.out (by omega) _ _ _⟩
set_option maxRecDepth 100000 in
set_option maxHeartbeats 6400000 in
theorem rapply_any0 (s : List Bd) (hF : ∀ b ∈ s, b.2.args = []) (hV : ∀ b ∈ s, varB b.1 = true) (t : Tm) : ∀ (B : Nat) (w : World) (sv tv : Value), B ≤ w.heap.size → SIn (· < B) w s sv → SlIn (· < B) w t.args tv → t.nm.size ≤ maxLen → sizeT t ≤ 1000000 →
    Calls Tryz.prog 21 #[sv, .agg #[.string t.nm, tv]] w (RApR 0 (appT s t) w) := by
  obtain ⟨i0, hi, hz0, hz1, hz2⟩ := info_parts Tryz.info28
  induction t using Tm.ind with
  | h n l ih =>
    intro B w sv tv hB hs h hnm hz
    dsimp only [Tm.args, Tm.nm] at h hnm ⊢
    by_cases hv : isV (.mk n l) = true
    · have hl : l = [] := by cases l with
        | nil => rfl
        | cons a l => simp [isV, Tm.args] at hv
      subst hl
      obtain ⟨p, c, rfl⟩ := h.form
      have := rapply_var0 s hF n B w sv p c hB hs h hnm hv
      simpa [appT] using this
    · have hv0 : isV (.mk n l) = false := by simpa using hv
      rw [app_same hV n l hv0]
      obtain ⟨p, c, rfl, hn, hc, hm, hR⟩ := h.row
      have hls := len_size l
      simp only [sizeT] at hz
      have CV := Lib.hid (fun w' => rvar_t (.mk n l) p c w' hnm)
      rw [hv0] at CV
      dsimp only [Tm.nm, Tm.args] at CV
      obtain ⟨W2, hW2⟩ : ∃ W2, W2 = (w.alloc (.cells #[.string n, .slice p l.length c] 27)).alloc (.cells #[.string ⟨#[]⟩, .slice none 0 0] 27) := ⟨_, rfl⟩
      have G2 : Gr w W2 := by rw [hW2]; exact (Gr.alloc _ _).more _
      have hz2w : w.heap.size + 2 ≤ W2.heap.size := by rw [hW2]; simp
      have H2 : Hid (Has W2 w.heap.size #[.string n, .slice p l.length c]) := Lib.hid (by rw [hW2]; exact (Has.new w _ _).alloc _)
      have E2 : Hid (Has W2 (w.heap.size + 1) #[.string ⟨#[]⟩, .slice none 0 0]) := Lib.hid (by rw [hW2]; exact Has.new1 w _ _ _)
      have IH : Hid (∀ t ∈ l, ∀ (w' : World) (v : Value), Below w.heap.size w w' → SlIn (· < B) w' t.args v → t.nm.size ≤ maxLen → Calls Tryz.prog 21 #[sv, .agg #[.string t.nm, v]] w' (RApR 0 (appT s t) w')) :=
        Lib.hid (fun t hk w' v hb h hn => ih t hk B w' sv v (Nat.le_trans hB hb.size) (hs.deep hb hB) h hn (by have := size_mem hk; omega))
      have TK : Hid (∀ k t, l[k]? = some t → (l.take (k + 1)).map (appT s) = (l.take k).map (appT s) ++ [appT s t]) := Lib.hid (fun k t h => by rw [take_get l k t h]; simp)
      have FT : Hid ((l.take l.length).map (appT s) = l.map (appT s)) := Lib.hid (by simp)
      have HB := Lib.hid hB
      have HR := Lib.hid hR
      have HNM := Lib.hid hnm
      have hlb : l.length ≤ 1000000 := by omega
      have ll : Hid ((l.map (appT s)).length = l.length) := Lib.hid (by simp)
      have GG := Lib.hid G2
      unfold RApR
      dsimp only [Tm.nm, Tm.args]
      rw [ll.out]
      generalize hm' : l.length = m at *
      have HM := Lib.hid hm'
      clear ih hR h hm' hn hls hz ll hs hv hv0 hnm G2 hF
      obtain ⟨y1, y2, y3, y4, y5⟩ := H2.out.two
      go_enter Tryz.func21, Tryz.ntmps21
      go_upto_region 1 with fail
      rw [← hW2]
      clear hW2
      go_wp2_with fail
      refine (CV.out _).mono ?_
      rintro e w3 ⟨rfl, g3⟩
      have D3 := Lib.hid (next0 GG.out.1 g3.1)
      have H3 := Lib.hid (H2.out.step0 g3.1)
      have E3 := Lib.hid (E2.out.step0 g3.1)
      have hz3 : w.heap.size + 2 ≤ w3.heap.size := Nat.le_trans hz2w g3.1.size
      clear y1 y2 y3 y4 y5 CV g3 H2 E2
      obtain ⟨y1, y2, y3, y4, y5⟩ := H3.out.two
      go_wp2_with fail
      clear y1 y2 y3 y4 y5
      have hB3 : B ≤ w3.heap.size := by have := HB.out; omega
      have sz3 : w.heap.size ≤ w3.heap.size := by omega
      go_loopw [8] (fun i wr => ∃ (k : Nat) (L : List (Tm × Value)) (v : Value), k ≤ m ∧ i = .int .i64 k ∧ Hid (L.map (·.1) = (l.take k).map (appT s)) ∧ Hid (OwnB 0 (w3.heap.size + 1) wr L v) ∧ Hid (Has wr w3.heap.size #[.string n, v]) ∧ Hid (Has wr w.heap.size #[.string n, .slice p m c]) ∧ Hid (Has wr (w.heap.size + 1) #[.string ⟨#[]⟩, .slice none 0 0]) ∧ Hid (Below w.heap.size w wr)) (fun i _ => m - (intOf i).toNat)
      case atStart => exact ⟨0, [], _, Nat.zero_le _, rfl, Lib.hid rfl, Lib.hid (OwnB.nil _ _ _), Lib.hid (Has.new _ _ _), Lib.hid (H3.out.alloc _), Lib.hid (E3.out.alloc _), Lib.hid (D3.out.alloc sz3 _)⟩
      case round =>
        obtain ⟨k, L, v, hk, rfl, hL, hO, hC, hH, hE, hD⟩ := hrel
        by_cases hlt : k < m
        · obtain ⟨t, b, o, q, d, ht, rfl, hb, c1, c2, hs, hts⟩ := (Row.deep HR.out hD.out HB.out) k (by rw [HM.out]; exact hlt)
          obtain ⟨x1, x2, x3, x4, hbl⟩ := hC.out.two
          obtain ⟨y1, y2, y3, y4, y5⟩ := hH.out.two
          have hLl : L.length = k := by
            have := congrArg List.length hL.out
            rw [List.length_map, List.length_map, List.length_take, HM.out] at this
            omega
          have hLl2 : L.length ≤ 1000000 := by omega
          have TT := Lib.hid (TK.out k t ht)
          have IT := Lib.hid (fun w' (g : Below wr.heap.size wr w') => IH.out t (List.mem_of_getElem? ht) w' _ (next0 hD.out g) (hs.deep g (Nat.le_trans HB.out hD.out.size)) hts)
          have hv := Lib.hid hO.out.1.lt
          have A1 : L.length + 1 ≤ maxLen := by unfold maxLen; omega
          have A2 : (L.length + 1) * 40 ≤ 140737488355328 := by omega
          have hDs := hD.out.size
          have hbs : w3.heap.size + 1 ≤ wr.heap.size := hbl
          clear hs hts ht hLl
          generalize t.nm = tn at *
          generalize t.args.length = ta at *
          generalize appT s t = u at *
          unfold RApR at IT
          go_wp2_with fail
          go_region_law (first
            | (refine step_append_lies _ rfl _ _ 25 rfl (w3.heap.size + 1) 27 i0 (.agg #[.string ⟨#[]⟩, .slice none 0 0]) 2 40 Tryz.underlying25 hi hz0 hz1 hz2 rfl (by decide) v L.length (flatL L) rfl (O2.out.1.alloc _) ⟨w2.heap.size, 0, none⟩ 1 1 [.string u.nm, .slice q1 u.args.length c1'] rfl rfl (news2 _ _ _ _) (one2 _ _ _ _) (by decide) A1 A2 A3 (w2.heap.size + 1) (by simp) ?_; intro g cap w4 hown hgrow hat hlt3; have O3 := Lib.hid (O2.out.add (by omega) (by omega) S2.out NU.out hbl (fun k hk => (hv.out k hk).2) hown hgrow hat); have nv1 : v.ownBlock ≠ some w3.heap.size := (fun e => absurd (hv.out _ e).1 (by omega)); have nv2 : v.ownBlock ≠ some (w.heap.size + 1) := (fun e => absurd (hv.out _ e).1 (by omega)); have nv3 : v.ownBlock ≠ some w.heap.size := (fun e => absurd (hv.out _ e).1 (by omega)); have C3 := Lib.hid (UniD.Has.grown (C2.out.alloc _) hgrow nv1); have E3 := Lib.hid (UniD.Has.grown (E2.out.alloc _) hgrow nv2); have H3 := Lib.hid (UniD.Has.grown (H2.out.alloc _) hgrow nv3); have D3 := Lib.hid ((D2.out.alloc (by exact D2.out.size) _).grown hgrow (by have := D2.out.size; simp; omega) (fun k hk => by have := (hv.out k hk).1; omega)); clear hown hgrow hat; obtain ⟨u1, u2, u3, u4, u5⟩ := C3.out.two)
            | (go_simp; go_at_call 21; refine (IT.out _ (by first | exact Below.refl _ _ | exact (Below.refl _ _).drew | exact below_drewN (Below.refl _ _) _)).mono ?_; rintro e w2 ⟨q1, c1', rfl, s2, nu, b2⟩; have G2 : Below wr.heap.size wr w2 := (by first | exact b2 | exact next0 (Below.refl _ _).drew b2 | exact next0 (below_drewN (Below.refl _ _) _) b2); have hz22 : wr.heap.size ≤ w2.heap.size := G2.size; have S2 := Lib.hid (s2.weaken (ok' := fun b => b < 0 ∨ (wr.heap.size ≤ b ∧ b < w2.heap.size)) (fun b hb => hb)); have NU := Lib.hid nu; have D2 := Lib.hid (hD.out.trans (G2.mono hD.out.size)); have O2 := Lib.hid (hO.out.below G2); have C2 := Lib.hid (hC.out.step0 G2); have E2 := Lib.hid (hE.out.step0 G2); have H2 := Lib.hid (hH.out.step0 G2); have A3 : w3.heap.size + 1 ≤ (w2.alloc (.cells #[.string u.nm, .slice q1 u.args.length c1'] 27)).heap.size := (by have := C2.out.lt; simp; omega); clear s2 b2 G2 nu; obtain ⟨z1, z2, z3, z4, z5⟩ := C2.out.two))
          all_goals
            go_wp2_with fail
            go_roundw
            case rel => exact ⟨k + 1, L ++ [(u, .slice q1 u.args.length c1')], _, by omega, by go_num, Lib.hid (by rw [List.map_append, hL.out, TT.out]; rfl), Lib.hid (O3.out.far (by simp) (by simp) _), Lib.hid (C3.out.set 1 _), Lib.hid (H3.out.far (by show w.heap.size ≠ w3.heap.size; omega) _), Lib.hid (E3.out.far (by show w.heap.size + 1 ≠ w3.heap.size; omega) _), Lib.hid (D3.out.setCell (by show w.heap.size ≤ w3.heap.size; omega) _)⟩
            case measure => simp [intOf]; omega
        · obtain rfl : k = m := by omega
          obtain ⟨a, c', rfl⟩ := hO.out.form
          have hLl : L.length = k := by
            have := congrArg List.length hL.out
            rw [List.length_map, List.length_map, List.length_take, HM.out] at this
            omega
          have HL : Hid (L.map (·.1) = l.map (appT s)) := Lib.hid (by rw [hL.out, FT.out])
          rw [hLl] at hO hC
          obtain ⟨x1, x2, _, _, x5⟩ := hC.out.two
          obtain ⟨z1, z2, _, _, z5⟩ := hH.out.two
          obtain ⟨y1, y2, y3, y4, y5⟩ := hE.out.two
          have O4 := Lib.hid (((hO.out.far (p := ⟨w.heap.size + 1, 0, none⟩) (by show w.heap.size + 1 < w3.heap.size + 1; omega) (Nat.zero_le _) (.string n)).far (p := ⟨w.heap.size + 1, 1, none⟩) (by show w.heap.size + 1 < w3.heap.size + 1; omega) (Nat.zero_le _) (.slice a k c')))
          have D4 := Lib.hid ((hD.out.setCell (p := ⟨w.heap.size + 1, 0, none⟩) (by simp) (.string n)).setCell (p := ⟨w.heap.size + 1, 1, none⟩) (by simp) (.slice a k c'))
          have r1 := hE.out.put0 (.string n) (.slice a k c')
          have r2 := hE.out.put1 (.string n) (.slice a k c')
          clear hLl
          go_wp2_with fail
          refine bodyPost_ret (v := .agg #[.string n, .slice a k c']) (by simp [results, Tryz.results21, go_sem, r1, r2]) rfl ?_
          refine ⟨a, c', rfl, ?_, HNM.out, D4.out⟩
          rw [← HL.out]
          exact O4.out.slin.weaken (fun b hb => by have := hb; omega)
end UnrI
end Go.Proofs.YtihbnonbhelbmaaGreatDoor
