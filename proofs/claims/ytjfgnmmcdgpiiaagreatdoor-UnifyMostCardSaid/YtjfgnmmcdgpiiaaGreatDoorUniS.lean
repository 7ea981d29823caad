/- The reference's extend. Condition: bindings and pattern together at most a million. -/
import Derived.Test.YtjfgnmmcdgpiiaaGreatDoorUniR
import Derived.Test.YtjfgnmmcdgpiiaaGreatDoorUniL
import Derived.Test.YtjfgnmmcdgpiiaaGreatDoorTermEq
import Derived.Deep.RegionWith
namespace Go.Proofs.YtjfgnmmcdgpiiaaGreatDoor
open Go Go.RowKit
namespace UniS
open LexM TermM TermI Kit TermN TermU UniK UniM UniA UniC UniD UniE UniG UniJ UniO UniL UniR
set_option maxRecDepth 100000 in
set_option maxHeartbeats 1600000 in
theorem rext_var (n : ByteArray) (t : Tm) (s : List Bd) (hl : s.length ≤ 1000000) (B : Nat) (w : World) (sv tv : Value) (p1 : Option Addr) (c1 : Nat) (hB : B ≤ w.heap.size) (hs : SIn (· < B) w s sv) (ht : SlIn (· < B) w t.args tv) (hpn : n.size ≤ maxLen) (htn : t.nm.size ≤ maxLen) (hv : isV (.mk n []) = true) :
    Calls Tryz.prog 52 #[.agg #[.string n, .slice p1 0 c1], .agg #[.string t.nm, tv], sv] w (BndR (bindP false s n t) w) := by
  obtain ⟨p2, c2, rfl⟩ := ht.form
  obtain ⟨W2, hW2⟩ : ∃ W2, W2 = (w.alloc (.cells #[.string n, .slice p1 0 c1] 27)).alloc (.cells #[.string t.nm, .slice p2 t.args.length c2] 27) := ⟨_, rfl⟩
  have G2 : Gr w W2 := by rw [hW2]; exact (Gr.alloc _ _).more _
  have H2 : Hid (Has W2 w.heap.size #[.string n, .slice p1 0 c1]) := Lib.hid (by rw [hW2]; exact (Has.new w _ _).alloc _)
  have T2 : Hid (Has W2 (w.heap.size + 1) #[.string t.nm, .slice p2 t.args.length c2]) := Lib.hid (by rw [hW2]; exact Has.new1 w _ _ _)
  have CV := Lib.hid (fun w' => rvar_t (.mk n []) p1 c1 w' hpn)
  rw [hv] at CV
  dsimp only [Tm.nm, Tm.args, List.length_nil] at CV
  have CL := Lib.hid (fun w' (k : Below w.heap.size w w') => rlookup_any s n B w' sv (Nat.le_trans hB k.size) (hs.deep k hB))
  have CP := Lib.hid (fun w' (k : Below w.heap.size w w') => put_any s (n, t) hl B w' sv (.slice p2 t.args.length c2) (Nat.le_trans hB k.size) (hs.deep k hB) ⟨ht.deep k hB, htn, hpn⟩)
  have CE := Lib.hid (fun (u : Tm) (q : Value) w' (k : Below w.heap.size w w') (hu : SlIn (· < B) w' u.args q) => TermEq.term_any u (cmpT u t == 0) B w' q t (.slice p2 t.args.length c2) (by rw [beq_iff_eq, cmp_zero]) (Nat.le_trans hB k.size) hu (ht.deep k hB))
  have SS := Lib.hid (fun w' (k : Below w.heap.size w w') => (hs.deep k hB).wide (ok' := (· < w'.heap.size)) fun b hb => by have := k.size; omega)
  have EPs := Lib.hid (fun u (h : lookS s n = some u) => show bindP false s n t = (if cmpT u t = 0 then some s else none) from by unfold bindP; rw [h])
  have EPn := Lib.hid (fun (h : lookS s n = none) => show bindP false s n t = some (putS (n, t) s) from by unfold bindP; rw [h]; simp)
  have GG := Lib.hid G2
  obtain ⟨y1, y2, y3, y4, y5⟩ := H2.out.two
  clear hs ht hpn htn hv hl G2
  generalize lookS s n = o9 at *
  dsimp only at CP
  generalize t.nm = tn at *
  generalize t.args.length = ta at *
  unfold RLkR at CL
  unfold InsR at CP
  go_enter Tryz.func52, Tryz.ntmps52
  go_upto_region 1 with fail
  rw [← hW2]
  clear hW2
  go_wp2_with fail
  refine (CV.out _).mono ?_
  rintro e w3 ⟨rfl, g3⟩
  have D3 := Lib.hid (next0 GG.out.1 g3.1)
  have H3 := Lib.hid (H2.out.step0 g3.1)
  have T3 := Lib.hid (T2.out.step0 g3.1)
  clear y1 y2 y3 y4 y5 CV g3 H2 T2
  obtain ⟨y1, y2, y3, y4, y5⟩ := H3.out.two
  go_wp2_with fail
  refine (CL.out _ D3.out).mono ?_
  rintro e w4 ⟨u, q, d, f, rfl, hc, hS, hnu, hb⟩
  have D4 := Lib.hid (next0 D3.out hb)
  have H4 := Lib.hid (H3.out.step0 hb)
  have T4 := Lib.hid (T3.out.step0 hb)
  have S4 := Lib.hid hS
  have HC := Lib.hid hc
  clear y1 y2 y3 y4 y5 CL hb D3 H3 T3 hS hnu hc
  obtain ⟨y1, y2, y3, y4, y5⟩ := H4.out.two
  obtain ⟨z1, z2, z3, z4, z5⟩ := T4.out.two
  have K5 := Lib.hid (fun (o : Obj) => below_alloc w4 o)
  have T5 := Lib.hid (fun (o : Obj) => (T4.out.alloc o).two)
  have H5 := Lib.hid (fun (o : Obj) => (H4.out.alloc o).two)
  rcases HC.out with ⟨ho, rfl⟩ | ⟨ho, hu, rfl⟩
  · subst ho
    have CE5 := Lib.hid (fun (w' : World) (k : Below w4.heap.size w4 w') => CE.out u (.slice q u.args.length d) w' (next0 D4.out k) (S4.out.deep k (by have := D4.out.size; omega)))
    obtain ⟨z, hz⟩ : ∃ z, (cmpT u t == 0) = z := ⟨_, rfl⟩
    have EZ : Hid (bindP false s n t = if z = true then some s else none) := Lib.hid (by rw [EPs.out u rfl, ← hz]; simp)
    rw [hz] at CE5
    clear hz CE HC EPs EPn S4
    generalize u.nm = un at *
    generalize u.args.length = ua at *
    go_wp2_with fail
    refine (CE5.out _ (below_alloc _ _)).mono ?_
    rintro e w5 ⟨rfl, g5⟩
    have D5 := Lib.hid (next0 D4.out (next0 (below_alloc w4 _) g5.1))
    go_wp2_with fail
    refine bodyPost_ret (v := .tuple #[sv, .bool z]) (by simp [results, Tryz.results52, go_sem]) rfl ?_
    unfold BndR
    cases z
    · exact ⟨_, false, rfl, (fun h => by cases h), (fun _ => EZ.out), D5.out⟩
    · exact ⟨_, true, rfl, (fun _ => ⟨s, EZ.out, SS.out _ D5.out⟩), (fun h => by cases h), D5.out⟩
  · subst ho
    subst hu
    have EO := Lib.hid (EPn.out rfl)
    clear EPs EPn CE HC
    go_wp2_with fail
    refine (CP.out _ (next0 D4.out (below_alloc _ _))).mono ?_
    rintro e w5 ⟨v5, rfl, hS5, hb5⟩
    have D5 := Lib.hid (next0 D4.out (next0 (below_alloc w4 _) hb5))
    have S5 := Lib.hid hS5
    clear hS5 hb5
    go_wp2_with fail
    refine bodyPost_ret (v := .tuple #[v5, .bool true]) (by simp [results, Tryz.results52, go_sem]) rfl ?_
    unfold BndR
    exact ⟨_, true, rfl, (fun _ => ⟨_, EO.out, S5.out⟩), (fun h => by cases h), D5.out⟩
set_option maxRecDepth 100000 in
set_option maxHeartbeats 3200000 in
theorem rext_any (p : Tm) : ∀ (t : Tm) (s : List Bd), Srt s → s.length + sizeT p ≤ 1000000 → ∀ (B : Nat) (w : World) (sv pv tv : Value), B ≤ w.heap.size → SIn (· < B) w s sv → SlIn (· < B) w p.args pv → SlIn (· < B) w t.args tv → p.nm.size ≤ maxLen → t.nm.size ≤ maxLen →
    Calls Tryz.prog 52 #[.agg #[.string p.nm, pv], .agg #[.string t.nm, tv], sv] w (BndR (extP false p t s) w) := by
  induction p using Tm.ind with
  | h n l ih =>
    rintro ⟨n2, r⟩ s hS hl B w sv pv tv hB hs hp ht hpn htn
    by_cases hv : isV (.mk n l) = true
    · have hl0 : l = [] := by cases l with
        | nil => rfl
        | cons a l => simp [isV, Tm.args] at hv
      subst hl0
      obtain ⟨p1, c1, rfl⟩ := hp.form
      have := rext_var n (.mk n2 r) s (by omega) B w sv tv p1 c1 hB hs ht hpn htn hv
      have e : extP false (.mk n []) (.mk n2 r) s = bindP false s n (.mk n2 r) := by rw [extP, if_pos hv]
      rw [e]
      exact this
    have hv0 : isV (.mk n l) = false := by simpa using hv
    dsimp only [Tm.args, Tm.nm] at hp hpn ht htn ⊢
    obtain ⟨p1, c1, rfl, _, hlc, hcm, hPR⟩ := hp.row
    obtain ⟨p2, c2, rfl, _, _, _, hTR⟩ := ht.row
    have h63 : l.length ≤ 9223372036854775807 := by unfold maxLen at hcm; omega
    clear hlc hcm
    obtain ⟨W2, hW2⟩ : ∃ W2, W2 = (w.alloc (.cells #[.string n, .slice p1 l.length c1] 27)).alloc (.cells #[.string n2, .slice p2 r.length c2] 27) := ⟨_, rfl⟩
    have G2 : Gr w W2 := by rw [hW2]; exact (Gr.alloc _ _).more _
    have H2 : Hid (Has W2 w.heap.size #[.string n, .slice p1 l.length c1]) := Lib.hid (by rw [hW2]; exact (Has.new w _ _).alloc _)
    have T2 : Hid (Has W2 (w.heap.size + 1) #[.string n2, .slice p2 r.length c2]) := Lib.hid (by rw [hW2]; exact Has.new1 w _ _ _)
    have CV := Lib.hid (fun w' => rvar_t (.mk n l) p1 c1 w' hpn)
    have IH : Hid (∀ x ∈ l, ∀ (y : Tm) (s' : List Bd), Srt s' → s'.length + sizeT x ≤ 1000000 → ∀ (w' : World) (sv' v1 v2 : Value), SIn (· < w'.heap.size) w' s' sv' → SlIn (· < w'.heap.size) w' x.args v1 → SlIn (· < w'.heap.size) w' y.args v2 → x.nm.size ≤ maxLen → y.nm.size ≤ maxLen → Calls Tryz.prog 52 #[.agg #[.string x.nm, v1], .agg #[.string y.nm, v2], sv'] w' (BndR (extP false x y s') w')) :=
      Lib.hid (fun x hx y s' h1 h2 w' sv' v1 v2 h3 h4 h5 h6 h7 => ih x hx y s' h1 h2 w'.heap.size w' sv' v1 v2 (Nat.le_refl _) h3 h4 h5 h6 h7)
    have KP := Lib.hid (fun (x : Tm) (y : Tm) s' s'' (h : Srt s') (e : extP false x y s' = some s'') => ext_keeps false x y s' s'' h e)
    have GG := Lib.hid G2
    have HB := Lib.hid hB
    have HPR := Lib.hid hPR
    have HTR := Lib.hid hTR
    have SS := Lib.hid (fun w' (k : Below w.heap.size w w') => (hs.deep k hB).wide (ok' := (· < w'.heap.size)) fun b hb => by have := k.size; omega)
    have hl2 : s.length + (sizeL (l.drop 0) + 1) ≤ 1000000 := by simpa [sizeT] using hl
    have HSL := Lib.hid (And.intro hS hl2)
    have SD := Lib.hid (fun k x (h : l[k]? = some x) => show sizeL (l.drop k) = sizeT x + sizeL (l.drop (k + 1)) from by
      obtain ⟨hk, rfl⟩ := List.getElem?_eq_some_iff.1 h
      rw [List.drop_eq_getElem_cons hk, sizeL])
    have EP : Hid (extP false (.mk n l) (.mk n2 r) s = if eqB n n2 && decide (l.length = r.length) then extL false l r s else none) := Lib.hid (by rw [extP, hv0]; rfl)
    rw [hv0] at CV
    clear hs hp ht hpn htn hPR hTR hS hl hl2 ih hB G2 hv hv0
    obtain ⟨y1, y2, y3, y4, y5⟩ := H2.out.two
    obtain ⟨zn, hzn⟩ : ∃ z, (n.toList == n2.toList) = z := ⟨_, rfl⟩
    have HZN : eqB n n2 = zn := by unfold eqB; rw [← hzn, ByteArray.toList_eq, ByteArray.toList_eq]
    rw [HZN] at EP
    have hzn2 : (n.toList != n2.toList) = !zn := by rw [bne, hzn]
    clear HZN
    dsimp only [Tm.nm, Tm.args] at CV
    unfold BndR at IH
    generalize hla : l.length = a at *
    generalize hlr : r.length = b at *
    have HLA := Lib.hid hla
    have HLR := Lib.hid hlr
    clear hla hlr
    go_enter Tryz.func52, Tryz.ntmps52
    go_upto_region 1 with fail
    rw [← hW2]
    clear hW2
    go_wp2_with fail
    refine (CV.out _).mono ?_
    rintro e w3 ⟨rfl, g3⟩
    have D3 := Lib.hid (next0 GG.out.1 g3.1)
    have H3 := Lib.hid (H2.out.step0 g3.1)
    have T3 := Lib.hid (T2.out.step0 g3.1)
    clear y1 y2 y3 y4 y5 g3 H2 T2 CV
    obtain ⟨y1, y2, y3, y4, y5⟩ := H3.out.two
    obtain ⟨z1, z2, z3, z4, z5⟩ := T3.out.two
    cases zn
    · have EO : Hid (extP false (.mk n l) (.mk n2 r) s = none) := Lib.hid (EP.out.trans (by simp))
      clear EP IH KP
      go_wp2_with fail
      refine bodyPost_ret (v := .tuple #[.slice none 0 0, .bool false]) (by simp [results, Tryz.results52, go_sem]) rfl ?_
      unfold BndR
      exact ⟨_, false, rfl, (fun h => by cases h), (fun _ => EO.out), D3.out⟩
    · by_cases hab : a = b
      · subst hab
        have EO : Hid (extP false (.mk n l) (.mk n2 r) s = extL false (l.drop 0) (r.drop 0) s) := Lib.hid (EP.out.trans (by simp))
        clear EP
        go_wp2_with fail
        clear y1 y2 y3 y4 y5 z1 z2 z3 z4 z5
        go_loopw [2, 10, 11] (fun v kv i wr => ∃ (k : Nat) (ok : Bool) (s' : List Bd), k ≤ a ∧ kv = .bool ok ∧ i = .int .i64 k ∧ Hid (ok = true → extL false (l.drop 0) (r.drop 0) s = extL false (l.drop k) (r.drop k) s' ∧ Srt s' ∧ s'.length + (sizeL (l.drop k) + 1) ≤ 1000000 ∧ SIn (· < wr.heap.size) wr s' v) ∧ Hid (ok = false → extL false (l.drop 0) (r.drop 0) s = none) ∧ Hid (Below w3.heap.size w3 wr)) (fun _ _ i _ => a - (intOf i).toNat)
        case atStart => exact ⟨0, true, s, Nat.zero_le _, rfl, rfl, Lib.hid (fun _ => ⟨rfl, HSL.out.1, HSL.out.2, SS.out _ D3.out⟩), Lib.hid (fun h => by cases h), Lib.hid (Below.refl _ _)⟩
        case round =>
          obtain ⟨k, ok, s', hk, rfl, rfl, hT, hF, hD⟩ := hrel
          obtain ⟨y1, y2, y3, y4, y5⟩ := (H3.out.step0 hD.out).two
          obtain ⟨z1, z2, z3, z4, z5⟩ := (T3.out.step0 hD.out).two
          have D5 := Lib.hid (next0 D3.out hD.out)
          cases ok
          · have EF : Hid (extP false (.mk n l) (.mk n2 r) s = none) := Lib.hid (EO.out.trans (hF.out rfl))
            clear hT hF IH KP
            by_cases hlt : k < a
            all_goals
              go_wp2_with fail
              refine bodyPost_ret (by simp [results, Tryz.results52, go_sem]; rfl) rfl ?_
              unfold BndR
              exact ⟨_, false, rfl, (fun h => by cases h), (fun _ => EF.out), D5.out⟩
          · have HQ := Lib.hid (hT.out rfl)
            clear hT hF
            by_cases hlt : k < a
            · obtain ⟨x, b, o, q, d, hx, rfl, hb, e1, e2, hxs, hxn⟩ := (Row.deep HPR.out D5.out HB.out) k (by rw [HLA.out]; exact hlt)
              obtain ⟨y, b2, o2, q2, d2, hy, rfl, hb2, u1, u2, hys, hyn⟩ := (Row.deep HTR.out D5.out HB.out) k (by rw [HLR.out]; exact hlt)
              have EX := Lib.hid (HQ.out.1.trans (ext_list hx hy s'))
              have SX := Lib.hid (SD.out k x hx)
              have hsx : s'.length + (sizeT x + sizeL (l.drop (k + 1)) + 1) ≤ 1000000 := by have := HQ.out.2.2.1; rw [SX.out] at this; exact this
              have CI := Lib.hid (fun w' (g : Below wr.heap.size wr w') => IH.out x (List.mem_of_getElem? hx) y s' HQ.out.2.1 (by omega) w' _ _ _ ((HQ.out.2.2.2.deep g (Nat.le_refl _)).wide fun b hb => Nat.lt_of_lt_of_le hb g.size) ((hxs.deep g (Nat.le_trans HB.out D5.out.size)).weaken fun b hb => Nat.lt_of_lt_of_le hb (Nat.le_trans HB.out (Nat.le_trans D5.out.size g.size))) ((hys.deep g (Nat.le_trans HB.out D5.out.size)).weaken fun b hb => Nat.lt_of_lt_of_le hb (Nat.le_trans HB.out (Nat.le_trans D5.out.size g.size))) hxn hyn)
              have KK := Lib.hid (fun s'' (e : extP false x y s' = some s'') => KP.out x y s' s'' HQ.out.2.1 e)
              have NX := Lib.hid (fun (n : Nat) (h : n ≤ s'.length + sizeT x) => show n + (sizeL (l.drop (k + 1)) + 1) ≤ 1000000 from by omega)
              clear hx hy hxs hxn hys hyn hsx SX IH KP SS SD HSL HQ
              generalize extP false x y s' = o9 at *
              generalize x.nm = xn at *
              generalize x.args.length = xa at *
              generalize y.nm = yn at *
              generalize y.args.length = ya at *
              go_wp2_with fail
              go_region_with (first
                | (go_at_call 52; (with_reducible refine (CI.out _ (by first | exact Below.refl _ _ | exact (Below.refl _ _).drew | exact below_drewN (Below.refl _ _) _)).mono ?_); rintro e w6 ⟨v6, f, rfl, h1, h2, hb6⟩; have D6 : Hid (Below wr.heap.size wr w6) := Lib.hid (by first | exact hb6 | exact next0 (Below.refl _ _).drew hb6 | exact next0 (below_drewN (Below.refl _ _) _) hb6); have HH := Lib.hid (And.intro h1 h2); clear h1 h2 hb6))
              all_goals
                go_wp2_with fail
                go_roundw
                case rel =>
                  cases f
                  · exact ⟨k + 1, false, [], by omega, rfl, by go_num, Lib.hid (fun h => by cases h), Lib.hid (fun _ => EX.out.trans (by rw [HH.out.2 rfl])), Lib.hid (next0 hD.out D6.out)⟩
                  · obtain ⟨s9, hs9, hI9⟩ := HH.out.1 rfl
                    exact ⟨k + 1, true, s9, by omega, rfl, by go_num, Lib.hid (fun _ => ⟨EX.out.trans (by rw [hs9]), (KK.out s9 hs9).1, NX.out _ (KK.out s9 hs9).2.2.1, hI9⟩), Lib.hid (fun h => by cases h), Lib.hid (next0 hD.out D6.out)⟩
                case measure => simp [intOf]; omega
            · obtain rfl : k = a := by omega
              have EF : Hid (extP false (.mk n l) (.mk n2 r) s = some s') := Lib.hid (by
                rw [EO.out, HQ.out.1, ← HLA.out, List.drop_length, HLA.out, ← HLR.out, List.drop_length]
                rfl)
              have I9 := Lib.hid HQ.out.2.2.2
              clear HQ IH KP
              go_wp2_with fail
              refine bodyPost_ret (by simp [results, Tryz.results52, go_sem]; rfl) rfl ?_
              unfold BndR
              exact ⟨_, true, rfl, (fun _ => ⟨s', EF.out, I9.out⟩), (fun h => by cases h), D5.out⟩
      · have hai : ((a : Int) == (b : Int)) = false := by rw [beq_eq_false_iff_ne]; omega
        have haj : ((a : Int) != (b : Int)) = true := by rw [bne, hai]; rfl
        have EO : Hid (extP false (.mk n l) (.mk n2 r) s = none) := Lib.hid (EP.out.trans (by simp [hab]))
        clear EP IH KP hab
        go_wp2_with fail
        refine bodyPost_ret (v := .tuple #[.slice none 0 0, .bool false]) (by simp [results, Tryz.results52, go_sem]) rfl ?_
        unfold BndR
        exact ⟨_, false, rfl, (fun h => by cases h), (fun _ => EO.out), D3.out⟩
end UniS
end Go.Proofs.YtjfgnmmcdgpiiaaGreatDoor
