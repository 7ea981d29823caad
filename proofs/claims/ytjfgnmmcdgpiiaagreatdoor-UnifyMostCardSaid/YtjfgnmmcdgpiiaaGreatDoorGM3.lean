/- Texts laid together: UnuJ; UnuK; UnmF; UnmG; UnuL. Their own heads stand before each. -/
import Derived.Test.YtjfgnmmcdgpiiaaGreatDoorGM2
import Derived.Test.YtjfgnmmcdgpiiaaGreatDoorTermEq
import Derived.Test.YtjfgnmmcdgpiiaaGreatDoorUniQ
import Derived.Deep.RegionLaw
import Derived.Deep.RegionWith
import Derived.Deep.DeepCutAuto
import Derived.Test.YtjfgnmmcdgpiiaaGreatDoorGM1
import Derived.Test.YtjfgnmmcdgpiiaaGreatDoorUniR
import Derived.Test.YtjfgnmmcdgpiiaaGreatDoorTermH
import Derived.Test.YtjfgnmmcdgpiiaaGreatDoorShelf
import Derived.Test.YtjfgnmmcdgpiiaaGreatDoorUniW
/- The reference's solve and Unify: what they answer is solveP and unifyR. Conditions: at most a thousand variables; valid terms. Made by genunuj.py. -/
namespace Go.Proofs.YtjfgnmmcdgpiiaaGreatDoor
open Go Go.RowKit
namespace UnuJ
open LexM TermM TermI Kit TermN TermU UniK UniM UniA UniB UniC UniD UniE UniG UniH UniJ UniO UniL UniR UnmA UnmB UnuA UnuB UnuD UnuE UnuF UnuG UnuH UnuI
theorem slin_far2 {ok : Nat → Prop} {w : World} {k : Nat} {l : List Tm} {v : Value} (h : SlIn ok w l v) (hk : ∀ b, ok b → b ≠ k) (a b : Value) : SlIn ok ((w.setCell ⟨k, 0, none⟩ a).setCell ⟨k, 1, none⟩ b) l v :=
  h.frame fun g o hg => by rw [cell_far (by show g ≠ k; exact hk g hg), cell_far (by show g ≠ k; exact hk g hg)]
def SolT (vs : List ByteArray) (n : Nat) : Prop := ∀ (a b : Tm) (s : List Bd) (o : Option (List Bd)), solveP n a b s = some o → Gd vs s → Tg vs a → Tg vs b → Near s a → Near s b → sizeT a ≤ 30000 → sizeT b ≤ 30000 →
  ∀ (B : Nat) (w : World) (av bv sv : Value), B ≤ w.heap.size → SIn (· < B) w s sv → SlIn (· < B) w a.args av → SlIn (· < B) w b.args bv → a.nm.size ≤ maxLen → b.nm.size ≤ maxLen →
    Calls Tryz.prog 58 #[.agg #[.string a.nm, av], .agg #[.string b.nm, bv], sv] w (BndR o w)
theorem solveL_head {f : Tm → Tm → List Bd → Option (Option (List Bd))} {xs ys : List Tm} {k : Nat} {x y : Tm} (hx : xs[k]? = some x) (hy : ys[k]? = some y) (s : List Bd) :
    solveL f (xs.drop k) (ys.drop k) s = match f x y s with
      | none => none
      | some none => some none
      | some (some s') => solveL f (xs.drop (k + 1)) (ys.drop (k + 1)) s' := by
  rw [TermQ.drop_get hx, TermQ.drop_get hy, solveL]
  cases f x y s with
  | none => rfl
  | some z => cases z <;> rfl
theorem solveL_end {f : Tm → Tm → List Bd → Option (Option (List Bd))} {xs ys : List Tm} {k : Nat} (hx : xs.length ≤ k) (s : List Bd) : solveL f (xs.drop k) (ys.drop k) s = some (some s) := by
  rw [List.drop_eq_nil_of_le hx, solveL]
  simp
set_option maxRecDepth 100000 in
set_option maxHeartbeats 6400000 in
theorem rsolve_any (vs : List ByteArray) (hvs : vs.length ≤ 1000) (n : Nat) : SolT vs n := by
  induction n with
  | zero => intro a b s o h; cases h
  | succ n IH =>
    intro a b s o h hg ta tb na nb za zb B w av bv sv hB hs ha hb han hbn
    obtain ⟨pa, ca, rfl⟩ := ha.form
    obtain ⟨pb, cb, rfl⟩ := hb.form
    rw [solveP] at h
    have hIv := hg.1
    have hsl : s.length ≤ 1000 := Nat.le_trans (keys_len hIv.1.1 fun x hx => (hg.2 x hx).1) hvs
    have x8 := na.valid hIv
    have y8 := nb.valid hIv
    have hXA : Hid (∀ z ∈ (appT s a).args, Near s z ∧ sizeT z ≤ 30000 ∧ Tg vs z) := Lib.hid (fun z hz => ⟨na.arg hIv hz, Nat.le_trans (arg_size hz) (size_8 x8), wf_arg (wf_app hIv.1 ta.1) hz, vars_arg (vars_app hIv.1.2.1 hg.2 ta.2) hz⟩)
    have hYA : Hid (∀ z ∈ (appT s b).args, Near s z ∧ sizeT z ≤ 30000 ∧ Tg vs z) := Lib.hid (fun z hz => ⟨nb.arg hIv hz, Nat.le_trans (arg_size hz) (size_8 y8), wf_arg (wf_app hIv.1 tb.1) hz, vars_arg (vars_app hIv.1.2.1 hg.2 tb.2) hz⟩)
    obtain ⟨W2, hW2⟩ : ∃ W2, W2 = (w.alloc (.cells #[.string a.nm, .slice pa a.args.length ca] 27)).alloc (.cells #[.string b.nm, .slice pb b.args.length cb] 27) := ⟨_, rfl⟩
    have B2 : Hid (Below w.heap.size w W2) := Lib.hid (by rw [hW2]; exact ((Gr.alloc _ _).more _).1)
    have hs2 : w.heap.size + 2 ≤ W2.heap.size := by rw [hW2]; simp
    have H2 : Hid (Has W2 w.heap.size #[.string a.nm, .slice pa a.args.length ca]) := Lib.hid (by rw [hW2]; exact (Has.new w _ _).alloc _)
    have T2 : Hid (Has W2 (w.heap.size + 1) #[.string b.nm, .slice pb b.args.length cb]) := Lib.hid (by rw [hW2]; exact Has.new1 w _ _ _)
    have LA := Lib.hid (fun w' (k : Below w.heap.size w w') => rapply_any s hIv.1.2.1 a B w' sv _ (Nat.le_trans hB k.size) (hs.deep k hB) (ha.deep k hB) han (by omega))
    have LB := Lib.hid (fun w' (k : Below w.heap.size w w') => rapply_any s hIv.1.2.1 b B w' sv _ (Nat.le_trans hB k.size) (hs.deep k hB) (hb.deep k hB) hbn (by omega))
    have SS := Lib.hid (fun w' (k : Below w.heap.size w w') => (hs.deep k hB).wide (ok' := (· < w'.heap.size)) fun b hb => Nat.lt_of_lt_of_le hb (Nat.le_trans hB k.size))
    have HIV := Lib.hid hg
    have HP := Lib.hid h
    have HX8 := Lib.hid (And.intro x8 y8)
    have HLEN : Hid ((appT s a).args.length ≤ 30000) := Lib.hid (by have h1 := size_8 x8; have h2 := len_size (appT s a).args; generalize appT s a = t at *; obtain ⟨m, l⟩ := t; simp only [sizeT, Tm.args] at *; omega)
    have HB := Lib.hid hB
    have HIH := Lib.hid IH
    clear IH h hg ta tb na nb za zb hs ha hb han hbn hIv x8 y8 hB
    generalize appT s a = x at *
    generalize appT s b = y at *
    unfold RApR at LA LB
    generalize a.nm = an at *
    generalize a.args.length = al at *
    generalize b.nm = bn at *
    generalize b.args.length = bl at *
    obtain ⟨y1, y2, y3, y4, y5⟩ := H2.out.two
    obtain ⟨z1, z2, z3, z4, z5⟩ := T2.out.two
    go_enter Tryz.func58, Tryz.ntmps58
    go_upto_region 1 with fail
    rw [← hW2]
    clear hW2
    go_cut [] (fun wx => ∃ (p3 : Option Addr) (c3 : Nat) (p4 : Option Addr) (c4 : Nat), Hid (Has wx w.heap.size #[.string x.nm, .slice p3 x.args.length c3]) ∧ Hid (Has wx (w.heap.size + 1) #[.string y.nm, .slice p4 y.args.length c4]) ∧ Hid (SlIn (· < wx.heap.size) wx x.args (.slice p3 x.args.length c3)) ∧ Hid (SlIn (· < wx.heap.size) wx y.args (.slice p4 y.args.length c4)) ∧ Hid (x.nm.size ≤ maxLen ∧ y.nm.size ≤ maxLen) ∧ Hid (Below w.heap.size w wx) ∧ w.heap.size + 2 ≤ wx.heap.size)
    case first =>
      clear HP HIH hXA hYA SS HIV HX8
      go_region_law (first
        | (go_simp; go_at_call 21; (with_reducible refine (LA.out _ (by first | exact B2.out | exact B2.out.drew | exact below_drewN B2.out _)).mono ?_); rintro e w3 ⟨p3, c3, rfl, s3, n3, b3⟩; have B3 : Hid (Below w.heap.size w w3) := Lib.hid (by first | exact next0 B2.out b3 | exact next0 B2.out.drew b3 | exact next0 (below_drewN B2.out _) b3); have K3 : Hid (Below W2.heap.size W2 w3) := Lib.hid (by first | exact b3 | exact next0 (Below.refl _ _).drew b3 | exact next0 (below_drewN (Below.refl _ _) _) b3); have H3 := Lib.hid (H2.out.step0 K3.out); have T3 := Lib.hid (T2.out.step0 K3.out); have S3 := Lib.hid (s3.weaken (ok' := fun b => b < B ∨ (w.heap.size + 2 ≤ b ∧ b < w3.heap.size)) (fun b hb => hb.imp id (fun h => ⟨Nat.le_trans hs2 h.1, h.2⟩))); have N3 := Lib.hid n3; have hs3 : w.heap.size + 2 ≤ w3.heap.size := Nat.le_trans hs2 K3.out.size; clear s3 n3 b3 y1 y2 y3 y4 y5 z1 z2 z3 z4 z5; obtain ⟨z1, z2, z3, z4, z5⟩ := T3.out.two)
        | (go_simp; go_at_call 21; (with_reducible refine (LB.out _ (by first | exact B3.out | exact B3.out.drew | exact below_drewN B3.out _)).mono ?_); rintro e w4 ⟨p4, c4, rfl, s4, n4, b4⟩; have B4 : Hid (Below w.heap.size w w4) := Lib.hid (by first | exact next0 B3.out b4 | exact next0 B3.out.drew b4 | exact next0 (below_drewN B3.out _) b4); have K4 : Hid (Below w3.heap.size w3 w4) := Lib.hid (by first | exact b4 | exact next0 (Below.refl _ _).drew b4 | exact next0 (below_drewN (Below.refl _ _) _) b4); have S4 := Lib.hid (s4.weaken (ok' := fun b => b < B ∨ (w.heap.size + 2 ≤ b ∧ b < w4.heap.size)) (fun b hb => hb.imp id (fun h => ⟨Nat.le_trans hs3 h.1, h.2⟩))); have N4 := Lib.hid n4; have hs4 : w3.heap.size ≤ w4.heap.size := K4.out.size; have S3' := Lib.hid (S3.out.frame (w' := w4) (fun b o hb => K4.out.cell (p := ⟨b, o, none⟩) (show b < w3.heap.size by have := HB.out; omega))); have H4 := Lib.hid (H3.out.step0 K4.out); have T4 := Lib.hid (T3.out.step0 K4.out); clear s4 n4 b4 z1 z2 z3 z4 z5; obtain ⟨y1, y2, y3, y4, y5⟩ := H4.out.two; obtain ⟨z1, z2, z3, z4, z5⟩ := T4.out.two))
      all_goals
        go_wp2_with fail
        go_meet
        exact ⟨p3, c3, p4, c4, Lib.hid (far_agg (k := w.heap.size + 1) (by omega) (put_agg H4.out _ _) _ _), Lib.hid (put_agg (far_agg (k := w.heap.size) (by omega) T4.out _ _) _ _), Lib.hid ((slin_far2 (slin_far2 S3'.out (fun b hb => by have := HB.out; omega) _ _) (fun b hb => by have := HB.out; omega) _ _).weaken (fun b hb => by have := HB.out; simp [World.setCell]; omega)), Lib.hid ((slin_far2 (slin_far2 S4.out (fun b hb => by have := HB.out; omega) _ _) (fun b hb => by have := HB.out; omega) _ _).weaken (fun b hb => by have := HB.out; simp [World.setCell]; omega)), Lib.hid ⟨N3.out, N4.out⟩, Lib.hid ((((B4.out.setCell (p := ⟨w.heap.size, 0, none⟩) (by simp) _).setCell (p := ⟨w.heap.size, 1, none⟩) (by simp) _).setCell (p := ⟨w.heap.size + 1, 0, none⟩) (by simp) _).setCell (p := ⟨w.heap.size + 1, 1, none⟩) (by simp) _), by simp [World.setCell]; omega⟩
    case rest =>
      obtain ⟨p3, c3, p4, c4, HA, HY, S3, S4, NN, K1, hs1⟩ := hcut
      clear LA LB B2 H2 T2 y1 y2 y3 y4 y5 z1 z2 z3 z4 z5 hs2
      obtain ⟨zq, hzq⟩ : ∃ z, (cmpT x y == 0) = z := ⟨_, rfl⟩
      have CE := Lib.hid (TermEq.term_any x (cmpT x y == 0) wc.heap.size wc (.slice p3 x.args.length c3) y (.slice p4 y.args.length c4) (by rw [beq_iff_eq, cmp_zero]) (Nat.le_refl _) S3.out S4.out)
      have CX := Lib.hid (fun w' => rvar_t x p3 c3 w' NN.out.1)
      have CY := Lib.hid (fun w' => rvar_t y p4 c4 w' NN.out.2)
      have BX := Lib.hid (fun (hv : isV y = true) w' (k : Below wc.heap.size wc w') => rbind_any s y.nm x (isv_args hv).2 HX8.out.1 HIV.out.1.1.2.2.1 hsl w'.heap.size w' sv p3 c3 (Nat.le_refl _) (SS.out w' (next0 K1.out k)) ((S3.out.deep k (Nat.le_refl _)).weaken fun b hb => Nat.lt_of_lt_of_le hb k.size) NN.out.2 NN.out.1)
      have BY := Lib.hid (fun (hv : isV x = true) w' (k : Below wc.heap.size wc w') => rbind_any s x.nm y (isv_args hv).2 HX8.out.2 HIV.out.1.1.2.2.1 hsl w'.heap.size w' sv p4 c4 (Nat.le_refl _) (SS.out w' (next0 K1.out k)) ((S4.out.deep k (Nat.le_refl _)).weaken fun b hb => Nat.lt_of_lt_of_le hb k.size) NN.out.1 NN.out.2)
      have HH := Lib.hid (fun w' (k : Below wc.heap.size wc w') => And.intro (HA.out.step0 k).two (HY.out.step0 k).two)
      have RX := Lib.hid S3.out.row
      have RY := Lib.hid S4.out.row
      have HQ : Hid (if zq = true then o = some s else (if (isV x && isV y && ltB x.nm y.nm) = true then some (bindR s y.nm x) else if isV x = true then some (bindR s x.nm y) else if isV y = true then some (bindR s y.nm x) else if headE x y = true then solveL (solveP n) x.args y.args s else some none) = some o) := Lib.hid (by
        have h := HP.out
        unfold solveB at h
        rw [← hzq]
        by_cases hc : cmpT x y = 0
        · rw [if_pos hc] at h
          rw [if_pos (by simpa using hc)]
          injection h with h
          exact h.symm
        · rw [if_neg hc] at h
          rw [if_neg (by simpa using hc)]
          exact h)
      rw [hzq] at CE
      clear HP hzq S3 S4 HA HY
      have HEQ : Hid (headE x y = (eqB x.nm y.nm && decide (x.args.length = y.args.length))) := Lib.hid rfl
      obtain ⟨vx, hvx⟩ : ∃ z, isV x = z := ⟨_, rfl⟩
      obtain ⟨vy, hvy⟩ : ∃ z, isV y = z := ⟨_, rfl⟩
      obtain ⟨zl, hzl⟩ : ∃ z, Op.bytesLess x.nm.toList y.nm.toList = z := ⟨_, rfl⟩
      have HZL : ltB x.nm y.nm = zl := by unfold ltB; rw [← hzl, ByteArray.toList_eq, ByteArray.toList_eq]
      obtain ⟨zn, hzn⟩ : ∃ z, (x.nm.toList == y.nm.toList) = z := ⟨_, rfl⟩
      have HZN : eqB x.nm y.nm = zn := by unfold eqB; rw [← hzn, ByteArray.toList_eq, ByteArray.toList_eq]
      have hzn2 : (x.nm.toList != y.nm.toList) = !zn := by rw [bne, hzn]
      rw [HZN] at HEQ
      rw [hvx, hvy, HZL, HEQ.out] at HQ
      rw [hvx] at CX BY
      rw [hvy] at CY BX
      clear HEQ HZN HZL hvx hvy HX8
      have hlx : x.args.length ≤ 30000 := HLEN.out
      generalize hxl : x.args.length = xl at *
      generalize hyl : y.args.length = yl at *
      have HXL := Lib.hid hxl
      have HYL := Lib.hid hyl
      clear hxl hyl
      generalize hoX : bindR s y.nm x = oX at *
      generalize hoY : bindR s x.nm y = oY at *
      clear hoX hoY
      generalize x.nm = xn at *
      generalize y.nm = yn at *
      unfold BndR at BX BY
      obtain ⟨⟨y1, y2, y3, y4, y5⟩, z1, z2, z3, z4, z5⟩ := HH.out wc (Below.refl _ _)
      go_wp2_with fail
      refine CE.out.mono ?_
      rintro e w5 ⟨rfl, g5⟩
      have K5 := Lib.hid g5.1
      clear CE g5 y1 y2 y3 y4 y5 z1 z2 z3 z4 z5
      cases zq
      case true =>
        have e9 : o = some s := by simpa using HQ.out
        subst e9
        have SZ := Lib.hid (SS.out w5 (next0 K1.out K5.out))
        have DZ := Lib.hid (next0 K1.out K5.out)
        clear SS
        go_wp2_with fail
        refine bodyPost_ret (v := .tuple #[sv, .bool true]) (by simp [results, Tryz.results58, go_sem]) rfl ?_
        unfold BndR
        exact ⟨_, true, rfl, (fun _ => ⟨s, rfl, SZ.out⟩), (fun h => by cases h), DZ.out⟩
      case false =>
        have HQ2 : Hid ((if (vx && vy && zl) = true then some oX else if vx = true then some oY else if vy = true then some oX else if (zn && decide (xl = yl)) = true then solveL (solveP n) x.args y.args s else some none) = some o) := Lib.hid (by simpa using HQ.out)
        clear HQ
        cases vx
        case true =>
          cases vy
          case true =>
            cases zl
            case true =>
              have e9 : oX = o := by simpa using HQ2.out
              subst e9
              clear RX RY hXA hYA HIH hzn hzn2 SS HQ2 BY
              obtain ⟨⟨y1, y2, y3, y4, y5⟩, z1, z2, z3, z4, z5⟩ := HH.out w5 K5.out
              go_wp2_with fail
              refine (CX.out _).mono ?_
              rintro e w6 ⟨rfl, g6⟩
              have K6 := Lib.hid (next0 K5.out g6.1)
              clear g6 y1 y2 y3 y4 y5 z1 z2 z3 z4 z5
              obtain ⟨⟨y1, y2, y3, y4, y5⟩, z1, z2, z3, z4, z5⟩ := HH.out w6 K6.out
              go_wp2_with fail
              refine (CY.out _).mono ?_
              rintro e w7 ⟨rfl, g7⟩
              have K7 := Lib.hid (next0 K6.out g7.1)
              clear g7 y1 y2 y3 y4 y5 z1 z2 z3 z4 z5
              obtain ⟨⟨y1, y2, y3, y4, y5⟩, z1, z2, z3, z4, z5⟩ := HH.out w7 K7.out
              go_wp2_with fail
              refine (BX.out (by trivial) _ K7.out).mono ?_
              rintro e w8 ⟨v9, f9, rfl, h1, h2, k9⟩
              have D9 := Lib.hid (next0 (next0 K1.out K7.out) k9)
              have H9 := Lib.hid (And.intro h1 h2)
              clear h1 h2 k9
              go_wp2_with fail
              refine bodyPost_ret (v := .tuple #[v9, .bool f9]) (by simp [results, Tryz.results58, go_sem]) rfl ?_
              unfold BndR
              exact ⟨v9, f9, rfl, H9.out.1, H9.out.2, D9.out⟩
            case false =>
              have e9 : oY = o := by simpa using HQ2.out
              subst e9
              clear RX RY hXA hYA HIH hzn hzn2 SS HQ2 BX
              obtain ⟨⟨y1, y2, y3, y4, y5⟩, z1, z2, z3, z4, z5⟩ := HH.out w5 K5.out
              go_wp2_with fail
              refine (CX.out _).mono ?_
              rintro e w6 ⟨rfl, g6⟩
              have K6 := Lib.hid (next0 K5.out g6.1)
              clear g6 y1 y2 y3 y4 y5 z1 z2 z3 z4 z5
              obtain ⟨⟨y1, y2, y3, y4, y5⟩, z1, z2, z3, z4, z5⟩ := HH.out w6 K6.out
              go_wp2_with fail
              refine (CY.out _).mono ?_
              rintro e w7 ⟨rfl, g7⟩
              have K7 := Lib.hid (next0 K6.out g7.1)
              clear g7 y1 y2 y3 y4 y5 z1 z2 z3 z4 z5
              obtain ⟨⟨y1, y2, y3, y4, y5⟩, z1, z2, z3, z4, z5⟩ := HH.out w7 K7.out
              go_wp2_with fail
              refine (CX.out _).mono ?_
              rintro e w8 ⟨rfl, g8⟩
              have K8 := Lib.hid (next0 K7.out g8.1)
              clear g8 y1 y2 y3 y4 y5 z1 z2 z3 z4 z5
              obtain ⟨⟨y1, y2, y3, y4, y5⟩, z1, z2, z3, z4, z5⟩ := HH.out w8 K8.out
              go_wp2_with fail
              refine (BY.out (by trivial) _ K8.out).mono ?_
              rintro e w9 ⟨v9, f9, rfl, h1, h2, k9⟩
              have D9 := Lib.hid (next0 (next0 K1.out K8.out) k9)
              have H9 := Lib.hid (And.intro h1 h2)
              clear h1 h2 k9
              go_wp2_with fail
              refine bodyPost_ret (v := .tuple #[v9, .bool f9]) (by simp [results, Tryz.results58, go_sem]) rfl ?_
              unfold BndR
              exact ⟨v9, f9, rfl, H9.out.1, H9.out.2, D9.out⟩
          case false =>
            have e9 : oY = o := by simpa using HQ2.out
            subst e9
            clear RX RY hXA hYA HIH hzn hzn2 SS HQ2 BX
            obtain ⟨⟨y1, y2, y3, y4, y5⟩, z1, z2, z3, z4, z5⟩ := HH.out w5 K5.out
            go_wp2_with fail
            refine (CX.out _).mono ?_
            rintro e w6 ⟨rfl, g6⟩
            have K6 := Lib.hid (next0 K5.out g6.1)
            clear g6 y1 y2 y3 y4 y5 z1 z2 z3 z4 z5
            obtain ⟨⟨y1, y2, y3, y4, y5⟩, z1, z2, z3, z4, z5⟩ := HH.out w6 K6.out
            go_wp2_with fail
            refine (CY.out _).mono ?_
            rintro e w7 ⟨rfl, g7⟩
            have K7 := Lib.hid (next0 K6.out g7.1)
            clear g7 y1 y2 y3 y4 y5 z1 z2 z3 z4 z5
            obtain ⟨⟨y1, y2, y3, y4, y5⟩, z1, z2, z3, z4, z5⟩ := HH.out w7 K7.out
            go_wp2_with fail
            refine (CX.out _).mono ?_
            rintro e w8 ⟨rfl, g8⟩
            have K8 := Lib.hid (next0 K7.out g8.1)
            clear g8 y1 y2 y3 y4 y5 z1 z2 z3 z4 z5
            obtain ⟨⟨y1, y2, y3, y4, y5⟩, z1, z2, z3, z4, z5⟩ := HH.out w8 K8.out
            go_wp2_with fail
            refine (BY.out (by trivial) _ K8.out).mono ?_
            rintro e w9 ⟨v9, f9, rfl, h1, h2, k9⟩
            have D9 := Lib.hid (next0 (next0 K1.out K8.out) k9)
            have H9 := Lib.hid (And.intro h1 h2)
            clear h1 h2 k9
            go_wp2_with fail
            refine bodyPost_ret (v := .tuple #[v9, .bool f9]) (by simp [results, Tryz.results58, go_sem]) rfl ?_
            unfold BndR
            exact ⟨v9, f9, rfl, H9.out.1, H9.out.2, D9.out⟩
        case false =>
          cases vy
          case true =>
            have e9 : oX = o := by simpa using HQ2.out
            subst e9
            clear RX RY hXA hYA HIH hzn hzn2 SS HQ2 BY
            obtain ⟨⟨y1, y2, y3, y4, y5⟩, z1, z2, z3, z4, z5⟩ := HH.out w5 K5.out
            go_wp2_with fail
            refine (CX.out _).mono ?_
            rintro e w6 ⟨rfl, g6⟩
            have K6 := Lib.hid (next0 K5.out g6.1)
            clear g6 y1 y2 y3 y4 y5 z1 z2 z3 z4 z5
            obtain ⟨⟨y1, y2, y3, y4, y5⟩, z1, z2, z3, z4, z5⟩ := HH.out w6 K6.out
            go_wp2_with fail
            refine (CX.out _).mono ?_
            rintro e w7 ⟨rfl, g7⟩
            have K7 := Lib.hid (next0 K6.out g7.1)
            clear g7 y1 y2 y3 y4 y5 z1 z2 z3 z4 z5
            obtain ⟨⟨y1, y2, y3, y4, y5⟩, z1, z2, z3, z4, z5⟩ := HH.out w7 K7.out
            go_wp2_with fail
            refine (CY.out _).mono ?_
            rintro e w8 ⟨rfl, g8⟩
            have K8 := Lib.hid (next0 K7.out g8.1)
            clear g8 y1 y2 y3 y4 y5 z1 z2 z3 z4 z5
            obtain ⟨⟨y1, y2, y3, y4, y5⟩, z1, z2, z3, z4, z5⟩ := HH.out w8 K8.out
            go_wp2_with fail
            refine (BX.out (by trivial) _ K8.out).mono ?_
            rintro e w9 ⟨v9, f9, rfl, h1, h2, k9⟩
            have D9 := Lib.hid (next0 (next0 K1.out K8.out) k9)
            have H9 := Lib.hid (And.intro h1 h2)
            clear h1 h2 k9
            go_wp2_with fail
            refine bodyPost_ret (v := .tuple #[v9, .bool f9]) (by simp [results, Tryz.results58, go_sem]) rfl ?_
            unfold BndR
            exact ⟨v9, f9, rfl, H9.out.1, H9.out.2, D9.out⟩
          case false =>
            have HQ3 : Hid ((if (zn && decide (xl = yl)) = true then solveL (solveP n) x.args y.args s else some none) = some o) := Lib.hid (by simpa using HQ2.out)
            clear HQ2 BX BY
            obtain ⟨⟨y1, y2, y3, y4, y5⟩, z1, z2, z3, z4, z5⟩ := HH.out w5 K5.out
            go_wp2_with fail
            refine (CX.out _).mono ?_
            rintro e w6 ⟨rfl, g6⟩
            have K6 := Lib.hid (next0 K5.out g6.1)
            clear g6 y1 y2 y3 y4 y5 z1 z2 z3 z4 z5
            obtain ⟨⟨y1, y2, y3, y4, y5⟩, z1, z2, z3, z4, z5⟩ := HH.out w6 K6.out
            go_wp2_with fail
            refine (CX.out _).mono ?_
            rintro e w7 ⟨rfl, g7⟩
            have K7 := Lib.hid (next0 K6.out g7.1)
            clear g7 y1 y2 y3 y4 y5 z1 z2 z3 z4 z5
            obtain ⟨⟨y1, y2, y3, y4, y5⟩, z1, z2, z3, z4, z5⟩ := HH.out w7 K7.out
            go_wp2_with fail
            refine (CY.out _).mono ?_
            rintro e w8 ⟨rfl, g8⟩
            have K8 := Lib.hid (next0 K7.out g8.1)
            clear g8 y1 y2 y3 y4 y5 z1 z2 z3 z4 z5
            have D8 := Lib.hid (next0 K1.out K8.out)
            clear CX CY
            obtain ⟨⟨y1, y2, y3, y4, y5⟩, z1, z2, z3, z4, z5⟩ := HH.out w8 K8.out
            cases zn
            case false =>
              have e9 : o = none := by simpa using HQ3.out.symm
              subst e9
              clear RX RY hXA hYA HIH SS
              go_wp2_with fail
              refine bodyPost_ret (v := .tuple #[.slice none 0 0, .bool false]) (by simp [results, Tryz.results58, go_sem]) rfl ?_
              unfold BndR
              exact ⟨_, false, rfl, (fun h => by cases h), (fun _ => rfl), D8.out⟩
            case true =>
              by_cases hab : xl = yl
              · subst hab
                have HQ4 : Hid (solveL (solveP n) (x.args.drop 0) (y.args.drop 0) s = some o) := Lib.hid (by simpa using HQ3.out)
                clear HQ3
                obtain ⟨pX, cX, eX, _, _, _, hRX⟩ := RX.out
                obtain ⟨pY, cY, eY, _, _, _, hRY⟩ := RY.out
                injection eX with eX1 _ eX2
                injection eY with eY1 _ eY2
                subst eX1 eY1 eX2 eY2
                have HRX := Lib.hid hRX
                have HRY := Lib.hid hRY
                clear hRX hRY RX RY
                have h63 : xl ≤ 9223372036854775807 := by omega
                clear hlx
                go_wp2_with fail
                clear y1 y2 y3 y4 y5 z1 z2 z3 z4 z5
                go_loopw [2, 8, 9] (fun v kv i wr => ∃ (k : Nat) (ok : Bool) (s' : List Bd), k ≤ xl ∧ kv = .bool ok ∧ i = .int .i64 k ∧ Hid (ok = true → solveL (solveP n) (x.args.drop k) (y.args.drop k) s' = some o ∧ Gd vs s' ∧ Ext s s' ∧ SIn (· < wr.heap.size) wr s' v) ∧ Hid (ok = false → o = none) ∧ Hid (Below w8.heap.size w8 wr)) (fun _ _ i _ => xl - (intOf i).toNat)
                case atStart => exact ⟨0, true, s, Nat.zero_le _, rfl, rfl, Lib.hid (fun _ => ⟨HQ4.out, HIV.out, Ext.refl HIV.out.1, SS.out _ D8.out⟩), Lib.hid (fun h => by cases h), Lib.hid (Below.refl _ _)⟩
                case round =>
                  obtain ⟨k, ok, s', hk, rfl, rfl, hT, hF, hD⟩ := hrel
                  obtain ⟨⟨y1, y2, y3, y4, y5⟩, z1, z2, z3, z4, z5⟩ := HH.out wr (next0 K8.out hD.out)
                  have D5 := Lib.hid (next0 D8.out hD.out)
                  cases ok
                  · have EF : Hid (o = none) := Lib.hid (hF.out rfl)
                    clear hT hF HIH hXA hYA SS HQ4
                    by_cases hlt : k < xl
                    all_goals
                      go_wp2_with fail
                      refine bodyPost_ret (by simp [results, Tryz.results58, go_sem]; rfl) rfl ?_
                      unfold BndR
                      exact ⟨_, false, rfl, (fun h => by cases h), (fun _ => EF.out), D5.out⟩
                  · have HQ := Lib.hid (hT.out rfl)
                    clear hT hF
                    by_cases hlt : k < xl
                    · obtain ⟨x9, b, o1, q, d, hx, rfl, hb, e1, e2, hxs, hxn⟩ := (Row.deep HRX.out (next0 K8.out hD.out) (Nat.le_refl _)) k (by rw [HXL.out]; exact hlt)
                      obtain ⟨y9, b2, o2, q2, d2, hy, rfl, hb2, u1, u2, hys, hyn⟩ := (Row.deep HRY.out (next0 K8.out hD.out) (Nat.le_refl _)) k (by rw [HYL.out]; exact hlt)
                      obtain ⟨oc, hoc⟩ : ∃ oc, solveP n x9 y9 s' = some oc := by
                        have e := HQ.out.1
                        rw [solveL_head hx hy] at e
                        cases h : solveP n x9 y9 s' with
                        | none => rw [h] at e; cases e
                        | some oc => exact ⟨oc, rfl⟩
                      have EX : Hid ((match oc with | none => some none | some s'' => solveL (solveP n) (x.args.drop (k + 1)) (y.args.drop (k + 1)) s'') = some o) := Lib.hid (by
                        have e := HQ.out.1
                        rw [solveL_head hx hy, hoc] at e
                        cases oc <;> exact e)
                      have ax := hXA.out x9 (List.mem_of_getElem? hx)
                      have ay := hYA.out y9 (List.mem_of_getElem? hy)
                      have hwr : wc.heap.size ≤ wr.heap.size := (next0 K8.out hD.out).size
                      have CI := Lib.hid (fun w' (g : Below wr.heap.size wr w') => HIH.out x9 y9 s' oc hoc HQ.out.2.1 ax.2.2 ay.2.2 (ax.1.ext HQ.out.2.2.1) (ay.1.ext HQ.out.2.2.1) ax.2.1 ay.2.1 w'.heap.size w' _ _ _ (Nat.le_refl _) ((HQ.out.2.2.2.deep g (Nat.le_refl _)).wide fun b hb => Nat.lt_of_lt_of_le hb g.size) ((hxs.deep g hwr).weaken fun b hb => Nat.lt_of_lt_of_le hb (Nat.le_trans hwr g.size)) ((hys.deep g hwr).weaken fun b hb => Nat.lt_of_lt_of_le hb (Nat.le_trans hwr g.size)) hxn hyn)
                      have NX := Lib.hid (fun s'' (e : oc = some s'') => show solveL (solveP n) (x.args.drop (k + 1)) (y.args.drop (k + 1)) s'' = some o ∧ Gd vs s'' ∧ Ext s s'' from by
                        subst e
                        have h1 := solve_ok n x9 y9 s' _ hoc HQ.out.2.1.1 ax.2.2.1 ay.2.2.1
                        have h2 := solve_keys n x9 y9 s' s'' hoc HQ.out.2.1.1 ax.2.2.1 ay.2.2.1 ax.2.2.2 ay.2.2.2 HQ.out.2.1.2
                        exact ⟨EX.out, ⟨h2.1, h2.2⟩, HQ.out.2.2.1.trans (Ext.of h1)⟩)
                      have NN2 := Lib.hid (fun (e : oc = none) => show o = none from by
                        subst e
                        have := EX.out
                        simpa using this.symm)
                      clear hx hy hxs hxn hys hyn ax ay hoc EX HIH hXA hYA SS HQ
                      generalize x9.nm = xn9 at *
                      generalize x9.args.length = xa at *
                      generalize y9.nm = yn9 at *
                      generalize y9.args.length = ya at *
                      unfold BndR at CI
                      go_wp2_with fail
                      go_region_with (first
                        | (go_at_call 58; (with_reducible refine (CI.out _ (by first | exact Below.refl _ _ | exact (Below.refl _ _).drew | exact below_drewN (Below.refl _ _) _)).mono ?_); rintro e w6 ⟨v6, f, rfl, h1, h2, hb6⟩; have D6 : Hid (Below wr.heap.size wr w6) := Lib.hid (by first | exact hb6 | exact next0 (Below.refl _ _).drew hb6 | exact next0 (below_drewN (Below.refl _ _) _) hb6); have H6 := Lib.hid (And.intro h1 h2); clear h1 h2 hb6))
                      all_goals
                        go_wp2_with fail
                        go_roundw
                        case rel =>
                          cases f
                          · exact ⟨k + 1, false, [], by omega, rfl, by go_num, Lib.hid (fun h => by cases h), Lib.hid (fun _ => NN2.out (H6.out.2 rfl)), Lib.hid (next0 hD.out D6.out)⟩
                          · obtain ⟨s9, hs9, hI9⟩ := H6.out.1 rfl
                            obtain ⟨q1, q2, q3⟩ := NX.out s9 hs9
                            exact ⟨k + 1, true, s9, by omega, rfl, by go_num, Lib.hid (fun _ => ⟨q1, q2, q3, hI9⟩), Lib.hid (fun h => by cases h), Lib.hid (next0 hD.out D6.out)⟩
                        case measure => simp [intOf]; omega
                    · obtain rfl : k = xl := by omega
                      have EF : Hid (o = some s') := Lib.hid (by
                        have e := HQ.out.1
                        rw [solveL_end (by rw [HXL.out]; exact Nat.le_refl _)] at e
                        injection e with e
                        exact e.symm)
                      have I9 := Lib.hid HQ.out.2.2.2
                      clear HQ HIH hXA hYA SS HQ4
                      go_wp2_with fail
                      refine bodyPost_ret (by simp [results, Tryz.results58, go_sem]; rfl) rfl ?_
                      unfold BndR
                      exact ⟨_, true, rfl, (fun _ => ⟨s', EF.out, I9.out⟩), (fun h => by cases h), D5.out⟩
              · have hai : ((xl : Int) == (yl : Int)) = false := by rw [beq_eq_false_iff_ne]; omega
                have haj : ((xl : Int) != (yl : Int)) = true := by rw [bne, hai]; rfl
                have e9 : o = none := by
                  have := HQ3.out
                  simp only [hab, decide_false, Bool.and_false, Bool.false_eq_true, if_false] at this
                  injection this with this
                  exact this.symm
                subst e9
                clear hab RX RY hXA hYA HIH SS HQ3
                go_wp2_with fail
                refine bodyPost_ret (v := .tuple #[.slice none 0 0, .bool false]) (by simp [results, Tryz.results58, go_sem]) rfl ?_
                unfold BndR
                exact ⟨_, false, rfl, (fun h => by cases h), (fun _ => rfl), D8.out⟩
end UnuJ
end Go.Proofs.YtjfgnmmcdgpiiaaGreatDoor
/- The reference's Unify: what it answers is unifyR. Condition: at most a thousand parts. -/
namespace Go.Proofs.YtjfgnmmcdgpiiaaGreatDoor
open Go Go.RowKit
namespace UnuK
open LexM TermM TermI Kit TermN TermU TermL UniK UniM UniA UniB UniC UniD UniE UniG UniH UniJ UniO UniL UniR UniY UnmA UnmB UnuA UnuB UnuD UnuE UnuF UnuG UnuH UnuI UnuJ
/-- What is answered once the terms are solved. -/
def Ans (o : Option (List Bd)) : Option (List Bd) → Prop
  | none => o = none
  | some s => o = if vldS s = true then some s else none
set_option maxRecDepth 100000 in
set_option maxHeartbeats 1600000 in
theorem runify_any (n : Nat) (a b : Tm) (o : Option (List Bd)) (hU : unifyR n a b = some o) (hz : sizeT a + sizeT b ≤ 1000) (B : Nat) (w : World) (av bv : Value) (hB : B ≤ w.heap.size) (ha : SlIn (· < B) w a.args av) (hb : SlIn (· < B) w b.args bv) (han : a.nm.size ≤ maxLen) (hbn : b.nm.size ≤ maxLen) :
    Calls Tryz.prog 30 #[.agg #[.string a.nm, av], .agg #[.string b.nm, bv]] w (MtR o w) := by
  obtain ⟨pa, ca, rfl⟩ := ha.form
  obtain ⟨pb, cb, rfl⟩ := hb.form
  obtain ⟨W2, hW2⟩ : ∃ W2, W2 = (w.alloc (.cells #[.string a.nm, .slice pa a.args.length ca] 27)).alloc (.cells #[.string b.nm, .slice pb b.args.length cb] 27) := ⟨_, rfl⟩
  have B2 : Hid (Below w.heap.size w W2) := Lib.hid (by rw [hW2]; exact ((Gr.alloc _ _).more _).1)
  have H2 : Hid (Has W2 w.heap.size #[.string a.nm, .slice pa a.args.length ca]) := Lib.hid (by rw [hW2]; exact (Has.new w _ _).alloc _)
  have T2 : Hid (Has W2 (w.heap.size + 1) #[.string b.nm, .slice pb b.args.length cb]) := Lib.hid (by rw [hW2]; exact Has.new1 w _ _ _)
  have VA := Lib.hid (fun w' (k : Below w.heap.size w w') => TermV.rvalid_any a B w' _ (Nat.le_trans hB k.size) han (ha.deep k hB))
  have VB := Lib.hid (fun w' (k : Below w.heap.size w w') => TermV.rvalid_any b B w' _ (Nat.le_trans hB k.size) hbn (hb.deep k hB))
  have hvl : (leavesL [a, b]).length ≤ 1000 := by
    have h := leavesL_len [a, b]
    simp only [sizeL] at h
    omega
  have CS := Lib.hid (fun (h1 : validT false 4 a = true) (h2 : validT false 4 b = true) o' (ho : solveP n a b [] = some o') w' (k : Below w.heap.size w w') =>
    rsolve_any (leavesL [a, b]) hvl n a b [] o' ho ⟨inv_nil, fun _ h => by cases h⟩ ⟨⟨4, h1⟩, fun w hw _ => leaves_mem.2 ⟨a, by simp, hw⟩⟩ ⟨⟨4, h2⟩, fun w hw _ => leaves_mem.2 ⟨b, by simp, hw⟩⟩ (Near.of h1) (Near.of h2) (by omega) (by omega) B w' _ _ (.slice none 0 0) (Nat.le_trans hB k.size) (SIn.nil _ _) (ha.deep k hB) (hb.deep k hB) han hbn)
  have CV := Lib.hid (fun s (w' : World) v (h : SIn (· < w'.heap.size) w' s v) => rvalid_any s w'.heap.size w' v (Nat.le_refl _) h)
  unfold unifyR at hU
  unfold BndR at CS
  obtain ⟨va, hva⟩ : ∃ z, validT false 4 a = z := ⟨_, rfl⟩
  obtain ⟨vb, hvb⟩ : ∃ z, validT false 4 b = z := ⟨_, rfl⟩
  rw [hva] at VA hU CS
  rw [hvb] at VB hU CS
  clear ha hb hB han hbn hz hva hvb hvl
  generalize solveP n a b [] = os at *
  generalize a.nm = an at *
  generalize a.args.length = al at *
  generalize b.nm = bn at *
  generalize b.args.length = bl at *
  obtain ⟨y1, y2, y3, y4, y5⟩ := H2.out.two
  go_enter Tryz.func30, Tryz.ntmps30
  go_upto_region 1 with fail
  rw [← hW2]
  clear hW2
  go_wp2_with fail
  refine (VA.out _ B2.out).mono ?_
  rintro e w3 ⟨rfl, g3⟩
  have D3 := Lib.hid (next0 B2.out g3.1)
  have H3 := Lib.hid (H2.out.step0 g3.1)
  have T3 := Lib.hid (T2.out.step0 g3.1)
  clear VA g3 H2 T2 B2 y1 y2 y3 y4 y5
  cases va
  · have e9 : o = none := by simpa using hU.symm
    subst e9
    clear CS CV VB
    go_wp2_with fail
    refine bodyPost_ret (v := .tuple #[.slice none 0 0, .bool false]) (by simp [results, Tryz.results30, go_sem]) rfl ?_
    unfold MtR
    exact ⟨_, false, rfl, (fun h => by cases h), (fun _ => ⟨rfl, rfl⟩), D3.out⟩
  obtain ⟨z1, z2, _⟩ := T3.out.two
  go_wp2_with fail
  refine (VB.out _ D3.out).mono ?_
  rintro e w4 ⟨rfl, g4⟩
  have D4 := Lib.hid (next0 D3.out g4.1)
  have H4 := Lib.hid (H3.out.step0 g4.1)
  have T4 := Lib.hid (T3.out.step0 g4.1)
  clear VB g4 H3 T3 D3 z1 z2
  cases vb
  · have e9 : o = none := by simpa using hU.symm
    subst e9
    clear CS CV
    go_wp2_with fail
    refine bodyPost_ret (v := .tuple #[.slice none 0 0, .bool false]) (by simp [results, Tryz.results30, go_sem]) rfl ?_
    unfold MtR
    exact ⟨_, false, rfl, (fun h => by cases h), (fun _ => ⟨rfl, rfl⟩), D4.out⟩
  obtain ⟨o', rfl⟩ : ∃ o', os = some o' := by
    cases os with
    | none => simp at hU
    | some z => exact ⟨z, rfl⟩
  have HO : Hid (Ans o o') := Lib.hid (by
    cases o' with
    | none => exact (by simpa using hU.symm : o = none)
    | some s => exact (by simpa using hU.symm : o = if vldS s = true then some s else none))
  have CS4 := Lib.hid (CS.out (by trivial) (by trivial) o' rfl w4 D4.out)
  clear hU CS
  obtain ⟨y1, y2, _⟩ := H4.out.two
  obtain ⟨z1, z2, _⟩ := T4.out.two
  go_wp2_with fail
  refine CS4.out.mono ?_
  rintro e w5 ⟨v5, f5, rfl, h1, h2, k5⟩
  have D5 := Lib.hid (next0 D4.out k5)
  have H5 := Lib.hid (And.intro h1 h2)
  clear h1 h2 k5 CS4 H4 T4 y1 y2 z1 z2
  cases f5
  · have e8 := H5.out.2 rfl
    subst e8
    have e9 : o = none := HO.out
    subst e9
    clear CV H5
    go_wp2_with fail
    refine bodyPost_ret (v := .tuple #[.slice none 0 0, .bool false]) (by simp [results, Tryz.results30, go_sem]) rfl ?_
    unfold MtR
    exact ⟨_, false, rfl, (fun h => by cases h), (fun _ => ⟨rfl, rfl⟩), D5.out⟩
  · obtain ⟨s, e8, hS⟩ := H5.out.1 rfl
    subst e8
    have e9 : o = if vldS s = true then some s else none := HO.out
    have CV5 := Lib.hid (CV.out s w5 v5 hS)
    have S5 := Lib.hid (fun w' (k : Below w5.heap.size w5 w') => (hS.deep k (Nat.le_refl _)).wide (ok' := (· < w'.heap.size)) fun b hb => Nat.lt_of_lt_of_le hb k.size)
    have HO2 := Lib.hid e9
    clear hS H5 CV HO e9
    obtain ⟨z, hzv⟩ : ∃ z, vldS s = z := ⟨_, rfl⟩
    rw [hzv] at CV5 HO2
    clear hzv
    go_wp2_with fail
    refine CV5.out.mono ?_
    rintro e w6 ⟨rfl, g6⟩
    have D6 := Lib.hid (next0 D5.out g6.1)
    have S6 := Lib.hid (S5.out w6 g6.1)
    clear g6 CV5 S5
    cases z
    · have e9 : o = none := by simpa using HO2.out
      subst e9
      clear S6
      go_wp2_with fail
      refine bodyPost_ret (v := .tuple #[.slice none 0 0, .bool false]) (by simp [results, Tryz.results30, go_sem]) rfl ?_
      unfold MtR
      exact ⟨_, false, rfl, (fun h => by cases h), (fun _ => ⟨rfl, rfl⟩), D6.out⟩
    · have e9 : o = some s := by simpa using HO2.out
      subst e9
      go_wp2_with fail
      refine bodyPost_ret (v := .tuple #[v5, .bool true]) (by simp [results, Tryz.results30, go_sem]) rfl ?_
      unfold MtR
      exact ⟨_, true, rfl, (fun _ => ⟨s, rfl, S6.out⟩), (fun h => by cases h), D6.out⟩
end UnuK
end Go.Proofs.YtjfgnmmcdgpiiaaGreatDoor
/- Unify of the code: what it answers is unifyP. Conditions: terms of at most a million parts and bytes, at most a million entries; the variable nameEnds holds its bytes; the library's sort of strings as a premise. -/
namespace Go.Proofs.YtjfgnmmcdgpiiaaGreatDoor
open Go Go.RowKit Go.Maps Go.WideMaps
namespace UnmF
open LexM TermM TermI Kit TermN TermU TermL TermE TermF UniK UniM UniA UniG UniJ UniL UniR UniD UniH TermT UnmA UnmB UnmC UnmD UnmE
/-- What the library's sort of strings leaves. -/
def SortC : Prop := ∀ (base : Nat) (w : World) (v : Value) (vs : List ByteArray), w.ownsRow base 9 1 v vs.length (strs vs) → vs.length ≤ 1000000 → Calls Tryz.prog 55 #[v] w fun e w' => e = .returned (.tuple #[]) ∧ w'.ownsRow base 9 1 v vs.length (strs (sortB vs)) ∧ Below base w w'
theorem vars_var {xs : List ByteArray} : ∀ v ∈ varsOf xs, varB v = true := by
  have gen : ∀ (xs M : List ByteArray), (∀ x ∈ M, varB x = true) → ∀ x ∈ xs.foldl addV M, varB x = true := by
    intro xs
    induction xs with
    | nil => intro M hM; exact hM
    | cons a r ih =>
      intro M hM
      refine ih (addV M a) ?_
      intro x h
      unfold addV at h
      split at h
      · next hc =>
        rcases List.mem_append.1 h with h | h
        · exact hM x h
        · obtain rfl := List.mem_singleton.1 h; exact hc.1
      · exact hM x h
  exact gen xs [] (fun x h => by simp at h)
theorem var_ok {v : ByteArray} (h : varB v = true) : v.size ≤ 16 := by
  unfold varB varL at h
  simp only [Bool.and_eq_true, decide_eq_true_eq] at h
  exact h.1.1
theorem leaf_ok {v : ByteArray} (h : varB v = true) : Ok (.mk v []) := by
  have h1 := var_ok h
  have h2 : v.data.toList.length = v.size := rfl
  exact ⟨by simp only [Tm.nm, maxLen]; omega, by simp [textT]; omega, by simp [sizeT, sizeL]⟩
theorem sol_cons {D : Cls} {n : Nat} {v : ByteArray} {l : List ByteArray} {r : List Bd} (h : solP D n (v :: l) = some r) : ∃ t r', resP D n 4 (.mk v []) = some t ∧ solP D n l = some r' ∧ r = if eqB t.nm v = true then r' else (v, t) :: r' := by
  unfold solP at h
  cases h1 : resP D n 4 (.mk v []) with
  | none => rw [h1] at h; cases h
  | some t =>
    cases h2 : solP D n l with
    | none => rw [h1, h2] at h; cases h
    | some r' =>
      rw [h1, h2] at h
      cases h
      exact ⟨t, r', rfl, rfl, rfl⟩
theorem bd3 {n : Nat} (h : n ≤ 1000000) : n + 1 ≤ maxLen := by unfold maxLen; omega
theorem bd4 {n : Nat} (h : n ≤ 1000000) : (n + 1) * 56 ≤ 140737488355328 := by omega
set_option maxRecDepth 100000 in
set_option maxHeartbeats 6400000 in
theorem unify_any (SC : SortC) (n : Nat) (a b : Tm) (o : Option (List Bd)) (ho : unifyP n a b = some o) (oa : Ok a) (ob : Ok b) (hz : sizeT a + sizeT b ≤ 1000000) (hD : ∀ D r, joinP n [] a b = some (D, r) → D.length ≤ 1000000)
    (B : Nat) (w : World) (av bv : Value) (hw : Wd w) (hg : 0 < B) (hB : B ≤ w.heap.size) (ha : SlIn (· < B) w a.args av) (hb : SlIn (· < B) w b.args bv) :
    Calls Tryz.prog 29 #[.agg #[.string a.nm, av], .agg #[.string b.nm, bv]] w (MtR o w) := by
  obtain ⟨i0, hi, hz0, hz1, hz2⟩ := info_parts infoB
  obtain ⟨pa, ca, rfl⟩ := ha.form
  obtain ⟨pb, cb, rfl⟩ := hb.form
  obtain ⟨W2, hW2⟩ : ∃ W2, W2 = (w.alloc (.cells #[.string a.nm, .slice pa a.args.length ca] 27)).alloc (.cells #[.string b.nm, .slice pb b.args.length cb] 27) := ⟨_, rfl⟩
  have B2 : Hid (Below w.heap.size w W2) := Lib.hid (by rw [hW2]; exact ((Gr.alloc _ _).more _).1)
  have hs2 : w.heap.size + 2 ≤ W2.heap.size := by rw [hW2]; simp
  have H2 : Hid (Has W2 w.heap.size #[.string a.nm, .slice pa a.args.length ca]) := Lib.hid (by rw [hW2]; exact (Has.new w _ _).alloc _)
  have T2 : Hid (Has W2 (w.heap.size + 1) #[.string b.nm, .slice pb b.args.length cb]) := Lib.hid (by rw [hW2]; exact Has.new1 w _ _ _)
  have VA := Lib.hid (fun w' (k : Below w.heap.size w w') => TermV.valid_any a B w' _ (Nat.le_trans hB k.size) oa.1 (ha.deep k hB))
  have VB := Lib.hid (fun w' (k : Below w.heap.size w w') => TermV.valid_any b B w' _ (Nat.le_trans hB k.size) ob.1 (hb.deep k hB))
  have CJ := Lib.hid (fun D r (hj : joinP n [] a b = some (D, r)) w' (k : Below w.heap.size w w') => join_any n [] a b D r hj (hD D r hj) B w'.heap.size (w'.alloc (.map #[] 0)) _ _ (hw.below (next0 k (below_alloc _ _)) hw.1) hg (Nat.le_trans hB k.size) (Cl.made w' B) (ha.deep (next0 k (below_alloc _ _)) hB) (hb.deep (next0 k (below_alloc _ _)) hB) oa ob)
  have CV := Lib.hid (fun (w' : World) sv (B' : Nat) (h1 : B' ≤ w'.heap.size) (h : SlIn (· < B') w' [a, b] sv) => vars_any [a, b] B' w' sv h1 h (by simp only [sizeL]; omega))
  have SA := Lib.hid (fun w' (k : Below B w w') => And.intro (ha.deep k (Nat.le_refl _)) (hb.deep k (Nat.le_refl _)))
  have WW := Lib.hid (fun w' (k : Below B w w') => hw.below k hg)
  have HN := Lib.hid (And.intro oa.1 ob.1)
  have VV : Hid (∀ v ∈ sortB (varsOf (leavesL [a, b])), varB v = true) := Lib.hid (fun v h => vars_var v (sortB_mem h))
  have hvl : (varsOf (leavesL [a, b])).length ≤ 1000000 := by
    have h1 := varsOf_len (leavesL [a, b])
    have h2 := leavesL_len [a, b]
    simp only [sizeL] at h2
    omega
  have hvs := sortB_len (varsOf (leavesL [a, b]))
  have CS := Lib.hid (fun base w' v h => SC base w' v (varsOf (leavesL [a, b])) h hvl)
  have HB := Lib.hid hB
  have HG := Lib.hid hg
  have hmm := @run_makeMap Tryz.prog
  unfold unifyP at ho
  generalize sortB (varsOf (leavesL [a, b])) = vs at *
  generalize hvz : varsOf (leavesL [a, b]) = vz at *
  unfold Vrs at CV
  unfold JnR at CJ
  clear ha hb hw hz oa ob hD hB hg SC
  obtain ⟨va, hva⟩ : ∃ z, validT false 4 a = z := ⟨_, rfl⟩
  obtain ⟨vb, hvb⟩ : ∃ z, validT false 4 b = z := ⟨_, rfl⟩
  rw [hva] at VA ho
  rw [hvb] at VB ho
  clear hva hvb
  generalize hj : joinP n [] a b = oj at *
  clear hj
  generalize hna : a.nm = an at *
  generalize hal : a.args.length = al at *
  generalize hnb : b.nm = bn at *
  generalize hbl : b.args.length = bl at *
  have HNA := Lib.hid (And.intro hna hnb)
  clear hna hnb hal hbl
  obtain ⟨y1, y2, y3, y4, y5⟩ := H2.out.two
  go_enter Tryz.func29, Tryz.ntmps29
  go_upto_region 1 with fail
  rw [← hW2]
  clear hW2
  go_wp2_with fail
  refine (VA.out _ B2.out).mono ?_
  rintro e w3 ⟨rfl, g3⟩
  have D3 := Lib.hid (next0 B2.out g3.1)
  have H3 := Lib.hid (H2.out.step0 g3.1)
  have T3 := Lib.hid (T2.out.step0 g3.1)
  have hs3 : w.heap.size + 2 ≤ w3.heap.size := Nat.le_trans hs2 g3.1.size
  clear VA g3 H2 T2 B2 hs2 y1 y2 y3 y4 y5
  cases va
  · have e9 : o = none := by simpa using ho.symm
    subst e9
    go_wp2_with fail
    refine bodyPost_ret (v := .tuple #[.slice none 0 0, .bool false]) (by simp [results, Tryz.results29, go_sem]) rfl ?_
    unfold MtR
    exact ⟨_, false, rfl, (fun h => by cases h), (fun _ => ⟨rfl, rfl⟩), D3.out⟩
  obtain ⟨z1, z2, _⟩ := T3.out.two
  go_wp2_with fail
  refine (VB.out _ D3.out).mono ?_
  rintro e w4 ⟨rfl, g4⟩
  have D4 := Lib.hid (next0 D3.out g4.1)
  have H4 := Lib.hid (H3.out.step0 g4.1)
  have T4 := Lib.hid (T3.out.step0 g4.1)
  have hs4 : w.heap.size + 2 ≤ w4.heap.size := Nat.le_trans hs3 g4.1.size
  clear VB g4 H3 T3 D3 hs3 z1 z2
  cases vb
  · have e9 : o = none := by simpa using ho.symm
    subst e9
    go_wp2_with fail
    refine bodyPost_ret (v := .tuple #[.slice none 0 0, .bool false]) (by simp [results, Tryz.results29, go_sem]) rfl ?_
    unfold MtR
    exact ⟨_, false, rfl, (fun h => by cases h), (fun _ => ⟨rfl, rfl⟩), D4.out⟩
  rw [if_neg (by simp)] at ho
  obtain ⟨D, r, rfl⟩ : ∃ D r, oj = some (D, r) := by
    cases oj with
    | none => cases ho
    | some z => exact ⟨z.1, z.2, rfl⟩
  obtain ⟨W5, hW5⟩ : ∃ W5, W5 = w4.alloc (.map #[] 0) := ⟨_, rfl⟩
  have H5 : Hid (Has W5 w.heap.size #[.string an, .slice pa al ca]) := Lib.hid (by rw [hW5]; exact H4.out.alloc _)
  have T5 : Hid (Has W5 (w.heap.size + 1) #[.string bn, .slice pb bl cb]) := Lib.hid (by rw [hW5]; exact T4.out.alloc _)
  have CJ5 := Lib.hid (CJ.out D r rfl w4 D4.out)
  rw [← hW5] at CJ5
  have D5 : Hid (Below w.heap.size w W5) := Lib.hid (by rw [hW5]; exact next0 D4.out (below_alloc _ _))
  have hs5 : w4.heap.size < W5.heap.size := by rw [hW5]; simp
  obtain ⟨y1, y2, _⟩ := H5.out.two
  obtain ⟨z1, z2, _⟩ := T5.out.two
  clear CJ H4 T4
  go_upto_region 4 with fail
  rw [← hW5]
  clear hW5 hmm
  go_wp2_with fail
  refine CJ5.out.mono ?_
  rintro e w6 ⟨rfl, hC6, h6⟩
  have C6 := Lib.hid hC6
  have K6 := Lib.hid h6
  have D6 : Hid (Below w.heap.size w w6) := Lib.hid (D5.out.trans (h6.toBelow (by have := D4.out.size; omega) (by have := D5.out.size; omega)))
  have H6 := Lib.hid (h6.has H5.out (by omega))
  have T6 := Lib.hid (h6.has T5.out (by omega))
  have hs6 : w4.heap.size < w6.heap.size := Nat.lt_of_lt_of_le hs5 h6.size
  clear CJ5 hC6 h6 H5 T5 D5 K6 hs5 y1 y2 z1 z2
  cases r
  · have e9 : o = none := by simpa using ho.symm
    subst e9
    go_wp2_with fail
    refine bodyPost_ret (v := .tuple #[.slice none 0 0, .bool false]) (by simp [results, Tryz.results29, go_sem]) rfl ?_
    unfold MtR
    exact ⟨_, false, rfl, (fun h => by cases h), (fun _ => ⟨rfl, rfl⟩), D6.out⟩
  dsimp only at ho
  obtain ⟨s, hs, hos⟩ : ∃ s, solP D n vs = some s ∧ Hid (o = (if vldS s = true then some s else none)) := by
    cases h : solP D n vs with
    | none => rw [h] at ho; cases ho
    | some s => rw [h] at ho; cases ho; exact ⟨s, rfl, Lib.hid rfl⟩
  have HS := Lib.hid hs
  clear ho hs
  obtain ⟨y1, y2, _⟩ := H6.out.two
  obtain ⟨z1, z2, _⟩ := T6.out.two
  obtain ⟨W7, hW7⟩ : ∃ W7, W7 = w6.alloc (.cells #[.string an, .slice pa al ca, .string bn, .slice pb bl cb] 27) := ⟨_, rfl⟩
  have R7 : Hid (Has W7 w6.heap.size #[.string an, .slice pa al ca, .string bn, .slice pb bl cb]) := Lib.hid (by rw [hW7]; exact Has.new _ _ _)
  have K7 : Hid (Below w6.heap.size w6 W7) := Lib.hid (by rw [hW7]; exact below_alloc _ _)
  have hs7 : w6.heap.size + 1 = W7.heap.size := by rw [hW7]; simp
  have hB6 : B ≤ w6.heap.size := Nat.le_trans HB.out D6.out.size
  have CV7 := Lib.hid (CV.out W7 (.slice (some ⟨w6.heap.size, 0, none⟩) 2 2) (w6.heap.size + 1) (by omega) (by
    have D7 : Below B w W7 := (D6.out.mono HB.out).trans (K7.out.mono hB6)
    obtain ⟨s1, s2⟩ := SA.out W7 D7
    obtain ⟨n1, n2⟩ := HNA.out
    refine TermH.slin_of (B := B) (B' := w6.heap.size + 1) (g := w6.heap.size) (cap := 2) (L := [(a, .slice pa al ca), (b, .slice pb bl cb)]) (by omega) (by omega) (Nat.le_refl _) (by decide) (by have := R7.out; rw [← n1, ← n2] at this; exact this) ?_
    intro x hx
    rcases List.mem_cons.1 hx with rfl | hx
    · exact ⟨s1, by rw [n1]; exact HN.out.1⟩
    · obtain rfl := List.mem_singleton.1 hx
      exact ⟨s2, by rw [n2]; exact HN.out.2⟩))
  clear CV R7 SA H6 T6
  go_wp2_with fail
  rw [← hW7]
  clear hW7
  refine CV7.out.mono ?_
  rintro e w8 ⟨v8, base8, rfl, hO8, hb8, k8⟩
  obtain ⟨a9, c9, rfl⟩ := row_form hO8
  have K8 := Lib.hid (next0 K7.out k8)
  have hs8 : w6.heap.size ≤ w8.heap.size := K8.out.size
  have CS8 := Lib.hid (CS.out base8 w8 _ hO8)
  clear CV7 k8 K7 y1 y2 z1 z2 hO8 CS
  go_wp2_with fail
  refine CS8.out.mono ?_
  rintro e w9 ⟨rfl, hO9, k9⟩
  have O9 := Lib.hid hO9
  have K9 := Lib.hid (K8.out.trans (k9.mono (by omega)))
  have D9 := Lib.hid (next0 D6.out K9.out)
  have C9 := Lib.hid (C6.out.keep K9.out hB6)
  have hB9 : B ≤ w9.heap.size := Nat.le_trans hB6 K9.out.size
  have hp9 : 0 < w9.heap.size := by have := HG.out; omega
  clear CS8 hO9 k9 K8 C6 K9 D6
  generalize hmz : vz.length = m at *
  have CR := Lib.hid (fun (v u : ByteArray × Tm) (hv : varB v.1 = true) (hr : resP D n 4 (.mk v.1 []) = some u.2) w' (k : Below w9.heap.size w9 w') => (res_any D n 4 (by omega) (.mk v.1 []) u.2 hr B w4.heap.size w' (.slice none 0 0) (WW.out w' ((D9.out.mono HB.out).trans (k.mono hB9))) (Nat.le_trans hB9 k.size) (C9.out.keep k hB9) (SlIn.none _ _) (leaf_ok hv) : Calls Tryz.prog 56 #[.map (some w4.heap.size), .agg #[.string v.1, .slice none 0 0], .int .i64 4] w' (RApR 0 u.2 w')))
  have HVM := Lib.hid hvs
  clear hvs hmz hvz
  unfold RApR at CR
  go_wp2_with fail
  go_loopw [8, 34] (fun v i wr => ∃ (k : Nat) (L : List (Bd × Value)), k ≤ m ∧ i = .int .i64 k ∧ Hid (∃ r, solP D n (vs.drop k) = some r ∧ L.map (·.1) ++ r = s) ∧ Hid (OwnG KB w9.heap.size wr L v) ∧ L.length ≤ k ∧ Hid (Below w9.heap.size w9 wr)) (fun _ i _ => m - (intOf i).toNat)
  case atStart => exact ⟨0, [], Nat.zero_le _, rfl, Lib.hid ⟨s, HS.out, rfl⟩, Lib.hid (OwnG.nil _ _), Nat.le_refl _, Lib.hid (Below.refl _ _)⟩
  case round =>
    obtain ⟨k, L, hk, rfl, hE, hO, hL, hK⟩ := hrel
    obtain ⟨va, vc, rfl⟩ := hO.out.form
    by_cases hlt : k < m
    · obtain ⟨v0, hv0⟩ : ∃ v0, vs[k]? = some v0 := ⟨vs[k]'(by rw [HVM.out]; exact hlt), by simp⟩
      obtain ⟨r, hr, hrs⟩ := hE.out
      rw [TermQ.drop_get hv0] at hr
      obtain ⟨u, r', hu, hr', rfl⟩ := sol_cons hr
      have OR : wr.ownsRow base8 9 1 (.slice a9 m c9) vs.length (strs vs) := by
        have := own_below (w' := wr) O9.out hK.out
        rw [HVM.out]
        exact this
      obtain ⟨g, cap, hav, hcell, hgb, hgl⟩ := row_str OR hv0
      injection hav with hav1 hav3 hav2
      subst hav1 hav2
      clear hav3
      have hvv := VV.out v0 (List.mem_of_getElem? hv0)
      have hv16 := var_ok hvv
      have CR0 := Lib.hid (fun w' (k : Below w9.heap.size w9 w') => CR.out (v0, .mk v0 []) (v0, u) hvv hu w' k)
      have E0 := Lib.hid hr'
      have E1 := Lib.hid hrs
      have CLf := Lib.hid (fun w' => leaf_nil v0 w')
      have hOl := Lib.hid hO.out.1.lt
      have A1 := bd3 (show L.length ≤ 1000000 by omega)
      have A2 := bd4 (show L.length ≤ 1000000 by omega)
      clear hv0 hr hu hr' hrs OR hE hvv
      go_wp2_with fail
      refine (CLf.out _).mono ?_
      rintro e w10 ⟨rfl, k10⟩
      have K10 := Lib.hid (next0 hK.out k10)
      have O10 := Lib.hid (hO.out.ch (r := 0) (Ch.of k10) hp9)
      have hs10 : wr.heap.size ≤ w10.heap.size := k10.size
      clear hcell k10 CLf hO
      go_wp2_with fail
      refine (CR0.out _ K10.out).mono ?_
      rintro e w11 ⟨q, d, rfl, hS, hnu, k11⟩
      have K11 := Lib.hid (next0 K10.out k11)
      have O11 := Lib.hid (O10.out.ch (r := 0) (Ch.of k11) hp9)
      have hs11 : w10.heap.size ≤ w11.heap.size := k11.size
      have S11 := Lib.hid (hS.weaken (ok' := fun b => w10.heap.size ≤ b ∧ b < w11.heap.size) (fun b hb => by have := hb; omega))
      have NU := Lib.hid hnu
      clear hS hnu k11 CR0 K10 O10
      obtain ⟨W12, hW12⟩ : ∃ W12, W12 = w11.alloc (.cells #[.string u.nm, .slice q u.args.length d] 27) := ⟨_, rfl⟩
      have K12 : Hid (Below w9.heap.size w9 W12) := Lib.hid (by rw [hW12]; exact next0 K11.out (below_alloc _ _))
      have O12 : Hid (OwnG KB w9.heap.size W12 L (.slice va L.length vc)) := Lib.hid (by rw [hW12]; exact O11.out.ch (r := 0) (Ch.of (below_alloc _ _)) hp9)
      have S12 : Hid (SlIn (fun b => w10.heap.size ≤ b ∧ b < W12.heap.size) W12 u.args (.slice q u.args.length d)) := Lib.hid (by
        rw [hW12]
        exact (S11.out.frame (w' := w11.alloc (.cells #[.string u.nm, .slice q u.args.length d] 27)) fun b o hb => (below_alloc w11 _).cell (p := ⟨b, o, none⟩) hb.2).weaken fun b hb => ⟨hb.1, by simp; omega⟩)
      have hs12 : w11.heap.size + 1 = W12.heap.size := by rw [hW12]; simp
      obtain ⟨u1, u2, _⟩ := (show Has W12 w11.heap.size #[.string u.nm, .slice q u.args.length d] by rw [hW12]; exact Has.new _ _ _).two
      obtain ⟨z, hz⟩ : ∃ z, (u.nm.toList == v0.toList) = z := ⟨_, rfl⟩
      have EZ : Hid (eqB u.nm v0 = z) := Lib.hid (by unfold eqB; rw [← hz, ByteArray.toList_eq, ByteArray.toList_eq])
      have h9r : w9.heap.size ≤ wr.heap.size := hK.out.size
      have hzb : w9.heap.size ≤ (W12.alloc (.cells #[.string v0, .string u.nm, .slice q u.args.length d] 52)).heap.size := by simp; omega
      clear K11 O11 S11 hK
      cases z
      · have e1 := E1.out
        rw [EZ.out, if_neg (by simp)] at e1
        have E2 : Hid ((L ++ [((v0, u), Value.slice q u.args.length d)]).map (·.1) ++ r' = s) := Lib.hid (by rw [List.map_append, List.append_assoc]; exact e1)
        have KI : Hid (KB.inn (fun b => w10.heap.size ≤ b ∧ b < W12.heap.size) W12 ((v0, u), Value.slice q u.args.length d)) := Lib.hid ⟨S12.out, NU.out, by unfold maxLen; show v0.size ≤ _; omega⟩
        clear e1 E1 S12
        generalize hun : u.nm = un at *
        have HUN := Lib.hid hun
        clear hun
        generalize hul : u.args.length = ul at *
        clear hul
        go_upto_region 13 with fail
        rw [← hW12]
        clear hW12
        go_wp2_with (at_builtin; refine wpList_append_lies _ rfl _ _ 22 rfl w9.heap.size 52 i0 zB 3 56 Tryz.underlying22 hi hz0 hz1 hz2 rfl (by decide) (.slice va L.length vc) L.length (KB.flat L) rfl (O12.out.1.alloc _) ⟨W12.heap.size, 0, none⟩ 1 1 [.string v0, .string un, .slice q ul d] rfl rfl (newsK _ _ _ _ _) (one_B _ _ _ _ _) (by decide) A1 A2 hzb (W12.heap.size + 1) (by simp) ?_; intro g5 cap5 w13 hown hgrow hat hlt5)
        have HA := OwnG.add (lo := w10.heap.size) (x := ((v0, u), Value.slice q ul d)) (K := KB) O12.out KI.out (by omega) (fun k hk => by have := (hOl.out k hk).2; omega) (by have e := HUN.out; rw [← e] at hown; exact hown) hgrow hat
        have K13 := Lib.hid ((K12.out.alloc (by exact K12.out.size) _).grown hgrow (by have := K12.out.size; simp; omega) (fun k hk => by have := (hOl.out k hk).1; omega))
        have O13 := Lib.hid HA
        have LL : (L ++ [((v0, u), Value.slice q ul d)]).length ≤ k + 1 := by simp; omega
        clear HA hown hgrow hat KI O12
        go_wp2_with fail
        go_roundw
        case rel => (repeat (refine Exists.intro _ ?_)); first | exact ⟨k + 1, _, by omega, by go_num, Lib.hid ⟨r', E0.out, E2.out⟩, O13, LL, K13⟩ | (refine ⟨?_, rfl⟩; exact ⟨k + 1, _, by omega, by go_num, Lib.hid ⟨r', E0.out, E2.out⟩, O13, LL, K13⟩)
        case measure => simp [intOf]; omega
      · have e1 := E1.out
        rw [EZ.out, if_pos rfl] at e1
        have E2 := Lib.hid e1
        clear e1 E1 S12 NU
        generalize u.nm = un at *
        generalize u.args.length = ul at *
        go_upto_region 13 with fail
        rw [← hW12]
        clear hW12
        go_wp2_with fail
        go_roundw
        case rel => (repeat (refine Exists.intro _ ?_)); first | exact ⟨k + 1, L, by omega, by go_num, Lib.hid ⟨r', E0.out, E2.out⟩, O12, by omega, K12⟩ | (refine ⟨?_, rfl⟩; exact ⟨k + 1, L, by omega, by go_num, Lib.hid ⟨r', E0.out, E2.out⟩, O12, by omega, K12⟩)
        case measure => simp [intOf]; omega
    · obtain rfl : k = m := by omega
      have hLs : L.map (·.1) = s := by
        obtain ⟨r, hr, hrs⟩ := hE.out
        rw [← HVM.out, List.drop_length] at hr
        cases hr
        simpa using hrs
      have SI : Hid (SIn (· < wr.heap.size) wr s (.slice va L.length vc)) := Lib.hid ⟨L, hLs, (hO.out.row).wide fun b hb => hb.2⟩
      have CW := Lib.hid (cvalid_any s wr.heap.size wr _ (Nat.le_refl _) SI.out)
      have KW := Lib.hid (next0 D9.out hK.out)
      clear hE hO hLs
      obtain ⟨z, hz⟩ : ∃ z, vldS s = z := ⟨_, rfl⟩
      rw [hz] at CW hos
      clear hz
      go_wp2_with fail
      refine CW.out.mono ?_
      rintro e w14 ⟨rfl, g14⟩
      have S14 := Lib.hid ((SI.out.gr g14 (Nat.le_refl _)).wide (ok' := (· < w14.heap.size)) fun b hb => Nat.lt_of_lt_of_le hb g14.size)
      have K14 := Lib.hid (next0 KW.out g14.1)
      clear g14 CW SI
      cases z
      · go_wp2_with fail
        refine bodyPost_ret (v := .tuple #[.slice none 0 0, .bool false]) (by simp [results, Tryz.results29, go_sem]) rfl ?_
        unfold MtR
        exact ⟨_, false, rfl, (fun h => by cases h), (fun _ => ⟨by have := hos.out; simpa using this, rfl⟩), K14.out⟩
      · go_wp2_with fail
        refine bodyPost_ret (v := .tuple #[.slice va L.length vc, .bool true]) (by simp [results, Tryz.results29, go_sem]) rfl ?_
        unfold MtR
        exact ⟨_, true, rfl, (fun _ => ⟨s, by have := hos.out; simpa using this, S14.out⟩), (fun h => by cases h), K14.out⟩
end UnmF
end Go.Proofs.YtjfgnmmcdgpiiaaGreatDoor
/- The library's sort of strings, and the variables of a rule without a body. Condition: at most a million parts. -/
namespace Go.Proofs.YtjfgnmmcdgpiiaaGreatDoor
open Go Go.RowKit Go.Maps Go.WideMaps
namespace UnmG
open LexM TermM TermI Kit TermN TermU TermL TermE TermF UniK UniM UniD UnmE UnmF
theorem sort_nil : sortB [] = [] := by simp [sortB, lists, bytesOf]
theorem sortc : SortC := by
  intro base w v vs hown hl
  have h0 := hown
  rcases hown.2 with ⟨rfl, hz⟩ | ⟨g, cap, cur, rfl, e2, e3, e4, e5, e6, e7⟩
  · have hv : vs = [] := List.eq_nil_of_length_eq_zero hz
    subst hv
    refine (Tryz.slices_Sort_string_none none 0 w).mono ?_
    rintro e w' ⟨rfl, rfl⟩
    exact ⟨rfl, by rw [sort_nil]; exact h0, Below.refl _ _⟩
  · have hg := (h0.lt g rfl).2
    have hll : (lists vs).length = vs.length := by simp [lists]
    have hH : Go.Sort.Holds encStr w g 0 (lists vs).toArray := by
      intro j hj
      have hj' : j < vs.length := by simpa [lists] using hj
      refine ⟨?_, h0.frozenAt _⟩
      rw [Nat.zero_add, h0.cellAt j (by omega)]
      have e9 : (lists vs).toArray[j]! = vs[j].data.toList := by
        rw [getElem!_pos _ j (by simpa using hj)]
        simp [lists]
      rw [e9]
      simp [strs, encStr, hj']
    have C := Tryz.slices_Sort_string g 0 cap (lists vs) w hH hg (by omega)
    rw [hll] at C
    refine C.mono ?_
    rintro e w' ⟨rfl, n, os, rfl⟩
    have hsl : ((lists vs).mergeSort fun x y => decide (x ≤ y)).length = vs.length := by simp [lists]
    have P := put_row (ls := (lists vs).mergeSort fun x y => decide (x ≤ y)) (by rw [hsl]; exact h0) n os
    rw [hsl] at P
    refine ⟨rfl, ?_, P.2⟩
    rw [show strs (sortB vs) = ((lists vs).mergeSort fun x y => decide (x ≤ y)).map encStr from strs_bytes _]
    exact P.1
set_option maxRecDepth 100000 in
set_option maxHeartbeats 800000 in
theorem rvars_nil (h : Tm) (B : Nat) (w : World) (hv : Value) (hB : B ≤ w.heap.size) (hs : SlIn (· < B) w h.args hv) (hn : h.nm.size ≤ maxLen) (hz : sizeT h ≤ 900000) :
    Calls Tryz.prog 62 #[.agg #[.string h.nm, hv, .slice none 0 0]] w (Vrs (varsOf (leavesL [h])) w) := by
  obtain ⟨p, c, rfl⟩ := hs.form
  obtain ⟨W1, hW1⟩ : ∃ W1, W1 = w.alloc (.cells #[.string h.nm, .slice p h.args.length c, .slice none 0 0] 34) := ⟨_, rfl⟩
  have R1 : Hid (Has W1 w.heap.size #[.string h.nm, .slice p h.args.length c, .slice none 0 0]) := Lib.hid (by rw [hW1]; exact Has.new _ _ _)
  have K1 : Hid (Below w.heap.size w W1) := Lib.hid (by rw [hW1]; exact below_alloc _ _)
  obtain ⟨W2, hW2⟩ : ∃ W2, W2 = W1.alloc (.cells #[.string h.nm, .slice p h.args.length c] 27) := ⟨_, rfl⟩
  have R2 : Hid (Has W2 W1.heap.size #[.string h.nm, .slice p h.args.length c]) := Lib.hid (by rw [hW2]; exact Has.new _ _ _)
  have K2 : Hid (Below w.heap.size w W2) := Lib.hid (by rw [hW2]; exact next0 K1.out (below_alloc _ _))
  have R12 : Hid (Has W2 w.heap.size #[.string h.nm, .slice p h.args.length c, .slice none 0 0]) := Lib.hid (by rw [hW2]; exact R1.out.alloc _)
  have hs1 : w.heap.size + 1 = W1.heap.size := by rw [hW1]; simp
  have hs2 : W1.heap.size + 1 = W2.heap.size := by rw [hW2]; simp
  have SL := TermH.slin_of (B := B) (B' := W1.heap.size + 1) (L := [(h, .slice p h.args.length c)]) (by omega) (by omega) (Nat.le_refl _) (by unfold maxLen; simp) R2.out (fun x hx => by
    obtain rfl := List.mem_singleton.1 hx
    exact ⟨hs.deep K2.out hB, hn⟩)
  have CV := Lib.hid (fun w' (k : Below W2.heap.size W2 w') => vars_any [h] (W1.heap.size + 1) w' (.slice (some ⟨W1.heap.size, 0, none⟩) 1 1) (by have := k.size; omega) (SL.deep k (by omega)) (by simp only [sizeL]; omega))
  clear hs hn hz R2 SL
  generalize varsOf (leavesL [h]) = vz at *
  unfold Vrs at CV ⊢
  generalize h.nm = hnm at *
  generalize h.args.length = hl at *
  obtain ⟨y1, y2, y3⟩ := UniA.three R1.out
  go_enter Tryz.func62, Tryz.ntmps62
  go_upto_region 1 with fail
  rw [← hW1]
  clear hW1
  go_upto_region 2 with fail
  rw [← hW2]
  clear hW2 y1 y2 y3
  obtain ⟨y1, y2, y3⟩ := UniA.three R12.out
  go_wp2_with fail
  go_loopw [3, 12] (fun v i wr => ∃ k : Nat, k ≤ 0 ∧ i = .int .i64 k ∧ v = .slice (some ⟨W1.heap.size, 0, none⟩) 1 1 ∧ Hid (Below W2.heap.size W2 wr)) (fun _ i _ => 0 - (intOf i).toNat)
  case atStart => exact ⟨0, Nat.le_refl _, rfl, rfl, Lib.hid (Below.refl _ _)⟩
  case round =>
    obtain ⟨k, hk, rfl, rfl, hK⟩ := hrel
    have hk0 : ¬ ((k : Int) < 0) := by omega
    go_wp2_with fail
    refine (CV.out _ hK.out).mono ?_
    rintro e w3 ⟨v', base, rfl, h1, h2, h3⟩
    have H1 := Lib.hid h1
    have K3 := Lib.hid (next0 (next0 K2.out hK.out) h3)
    have hsr := hK.out.size
    clear h1 h3
    go_wp2_with fail
    go_ret
    exact ⟨_, base, rfl, H1.out, by omega, K3.out⟩
end UnmG
end Go.Proofs.YtjfgnmmcdgpiiaaGreatDoor
/- Unify of the code for any terms, and the walk of UnifyUnifies, awake's contract as a premise. Condition: the variable nameEnds holds its bytes. -/
namespace Go.Proofs.YtjfgnmmcdgpiiaaGreatDoor
open Go Go.RowKit
namespace UnuL
open LexM TermM TermI Kit TermN TermS TermU TermL UniK UniM UniA UniB UniC UniD UniE UniG UniH UniJ UniO UniL UniR UniV UniW TermT UnmA UnmE UnmF UnmG UnuA UnuB UnuD UnuE UnuF UnuJ UnuK
theorem valid_ok {t : Tm} (h : V t) (hn : t.nm.size ≤ maxLen) (hz : sizeT t ≤ 400) : Ok t := by
  have := TermU1.text_len false 4 t h
  exact ⟨hn, by omega, by omega⟩
set_option maxRecDepth 100000 in
set_option maxHeartbeats 1600000 in
theorem cunify_bad (a b : Tm) (hV : (validT false 4 a && validT false 4 b) = false) (B : Nat) (w : World) (av bv : Value) (hB : B ≤ w.heap.size) (ha : SlIn (· < B) w a.args av) (hb : SlIn (· < B) w b.args bv) (han : a.nm.size ≤ maxLen) (hbn : b.nm.size ≤ maxLen) :
    Calls Tryz.prog 29 #[.agg #[.string a.nm, av], .agg #[.string b.nm, bv]] w (MtR none w) := by
  obtain ⟨pa, ca, rfl⟩ := ha.form
  obtain ⟨pb, cb, rfl⟩ := hb.form
  obtain ⟨W2, hW2⟩ : ∃ W2, W2 = (w.alloc (.cells #[.string a.nm, .slice pa a.args.length ca] 27)).alloc (.cells #[.string b.nm, .slice pb b.args.length cb] 27) := ⟨_, rfl⟩
  have B2 : Hid (Below w.heap.size w W2) := Lib.hid (by rw [hW2]; exact ((Gr.alloc _ _).more _).1)
  have H2 : Hid (Has W2 w.heap.size #[.string a.nm, .slice pa a.args.length ca]) := Lib.hid (by rw [hW2]; exact (Has.new w _ _).alloc _)
  have T2 : Hid (Has W2 (w.heap.size + 1) #[.string b.nm, .slice pb b.args.length cb]) := Lib.hid (by rw [hW2]; exact Has.new1 w _ _ _)
  have VA := Lib.hid (fun w' (k : Below w.heap.size w w') => TermV.valid_any a B w' _ (Nat.le_trans hB k.size) han (ha.deep k hB))
  have VB := Lib.hid (fun w' (k : Below w.heap.size w w') => TermV.valid_any b B w' _ (Nat.le_trans hB k.size) hbn (hb.deep k hB))
  obtain ⟨va, hva⟩ : ∃ z, validT false 4 a = z := ⟨_, rfl⟩
  obtain ⟨vb, hvb⟩ : ∃ z, validT false 4 b = z := ⟨_, rfl⟩
  rw [hva] at VA hV
  rw [hvb] at VB hV
  clear ha hb hB han hbn hva hvb
  generalize a.nm = an at *
  generalize a.args.length = al at *
  generalize b.nm = bn at *
  generalize b.args.length = bl at *
  obtain ⟨y1, y2, y3, y4, y5⟩ := H2.out.two
  go_enter Tryz.func29, Tryz.ntmps29
  go_upto_region 1 with fail
  rw [← hW2]
  clear hW2
  go_wp2_with fail
  refine (VA.out _ B2.out).mono ?_
  rintro e w3 ⟨rfl, g3⟩
  have D3 := Lib.hid (next0 B2.out g3.1)
  have T3 := Lib.hid (T2.out.step0 g3.1)
  clear VA g3 H2 T2 B2 y1 y2 y3 y4 y5
  cases va
  · go_wp2_with fail
    refine bodyPost_ret (v := .tuple #[.slice none 0 0, .bool false]) (by simp [results, Tryz.results29, go_sem]) rfl ?_
    unfold MtR
    exact ⟨_, false, rfl, (fun h => by cases h), (fun _ => ⟨rfl, rfl⟩), D3.out⟩
  · have e : vb = false := by simpa using hV
    subst e
    obtain ⟨z1, z2, _⟩ := T3.out.two
    go_wp2_with fail
    refine (VB.out _ D3.out).mono ?_
    rintro e w4 ⟨rfl, g4⟩
    have D4 := Lib.hid (next0 D3.out g4.1)
    go_wp2_with fail
    refine bodyPost_ret (v := .tuple #[.slice none 0 0, .bool false]) (by simp [results, Tryz.results29, go_sem]) rfl ?_
    unfold MtR
    exact ⟨_, false, rfl, (fun h => by cases h), (fun _ => ⟨rfl, rfl⟩), D4.out⟩
theorem cunify_any (n : Nat) (a b : Tm) (o : Option (List Bd)) (ho : unifyP n a b = some o) (hbad : (V a ∧ V b → False) → o = none) (hD : V a → V b → ∀ D r, joinP n [] a b = some (D, r) → D.length ≤ sizeT a + sizeT b) (za : sizeT a ≤ 400) (zb : sizeT b ≤ 400)
    (B : Nat) (w : World) (av bv : Value) (hw : Wd w) (hg : 0 < B) (hB : B ≤ w.heap.size) (ha : SlIn (· < B) w a.args av) (hb : SlIn (· < B) w b.args bv) (han : a.nm.size ≤ maxLen) (hbn : b.nm.size ≤ maxLen) :
    Calls Tryz.prog 29 #[.agg #[.string a.nm, av], .agg #[.string b.nm, bv]] w (MtR o w) := by
  by_cases hV : V a ∧ V b
  · exact unify_any sortc n a b o ho (valid_ok hV.1 han za) (valid_ok hV.2 hbn zb) (by omega) (fun D r h => by have := hD hV.1 hV.2 D r h; omega) B w av bv hw hg hB ha hb
  · rw [hbad hV]
    refine cunify_bad a b ?_ B w av bv hB ha hb han hbn
    cases h1 : validT false 4 a
    · rfl
    · cases h2 : validT false 4 b
      · rfl
      · exact absurd ⟨h1, h2⟩ hV
set_option maxRecDepth 100000 in
set_option maxHeartbeats 3200000 in
theorem unifies (a b : Tm) (w : World) (av bv : Value) (ha : SlIn (· < w.heap.size) w a.args av) (hb : SlIn (· < w.heap.size) w b.args bv) (han : a.nm.size ≤ maxLen) (hbn : b.nm.size ≤ maxLen) (hw : Wd w) (AW : Aw w) :
    Calls Tryz.prog 6 #[.agg #[.string a.nm, av], .agg #[.string b.nm, bv]] w fun e w' => e = .returned (.bool true) ∧ Below w.heap.size w w' := by
  obtain ⟨p1, c1, rfl⟩ := ha.form
  obtain ⟨p2, c2, rfl⟩ := hb.form
  obtain ⟨n, m, q, o, u1, u2, u3, _, u5, u6, u7⟩ := unify_both a b
  obtain ⟨W2, hW2⟩ : ∃ W2, W2 = (w.alloc (.cells #[.string a.nm, .slice p1 a.args.length c1] 27)).alloc (.cells #[.string b.nm, .slice p2 b.args.length c2] 27) := ⟨_, rfl⟩
  have G2 : Gr w W2 := by rw [hW2]; exact (Gr.alloc _ _).more _
  have H2 : Hid (Has W2 w.heap.size #[.string a.nm, .slice p1 a.args.length c1]) := Lib.hid (by rw [hW2]; exact (Has.new w _ _).alloc _)
  have T2 : Hid (Has W2 (w.heap.size + 1) #[.string b.nm, .slice p2 b.args.length c2]) := Lib.hid (by rw [hW2]; exact Has.new1 w _ _ _)
  have C1 := Lib.hid (fun w' (k : Below w.heap.size w w') => UniV.small_any a w.heap.size w' _ k.size (ha.deep k (Nat.le_refl _)))
  have C2 := Lib.hid (fun w' (k : Below w.heap.size w w') => UniV.small_any b w.heap.size w' _ k.size (hb.deep k (Nat.le_refl _)))
  have CM := Lib.hid (fun (h1 : partsT 100 100 a ≤ 100) (h2 : partsT 100 100 b ≤ 100) w' (k : Below w.heap.size w w') => cunify_any n a b o u1 u5 u6 (by have := size_of h1; omega) (by have := size_of h2; omega) w.heap.size w' _ _ (hw.below k hw.1) hw.1 k.size (ha.deep k (Nat.le_refl _)) (hb.deep k (Nat.le_refl _)) han hbn)
  have CN := Lib.hid (fun (h1 : partsT 100 100 a ≤ 100) (h2 : partsT 100 100 b ≤ 100) w' (k : Below w.heap.size w w') => cunify_any m b a o u2 (fun h => u5 fun hh => h ⟨hh.2, hh.1⟩) (fun h1 h2 => u7 h2 h1) (by have := size_of h2; omega) (by have := size_of h1; omega) w.heap.size w' _ _ (hw.below k hw.1) hw.1 k.size (hb.deep k (Nat.le_refl _)) (ha.deep k (Nat.le_refl _)) hbn han)
  have CR := Lib.hid (fun (h1 : partsT 100 100 a ≤ 100) (h2 : partsT 100 100 b ≤ 100) w' (k : Below w.heap.size w w') => runify_any q a b o u3 (by have := size_of h1; have := size_of h2; omega) w.heap.size w' _ _ k.size (ha.deep k (Nat.le_refl _)) (hb.deep k (Nat.le_refl _)) han hbn)
  have GG := Lib.hid G2
  have AW' := Lib.hid AW
  have HH := Lib.hid (fun w' (k : Below W2.heap.size W2 w') => And.intro (H2.out.step0 k).two (T2.out.step0 k).two)
  clear ha hb han hbn AW H2 T2 G2 u1 u2 u3 u5 u6 u7 hw
  obtain ⟨b1, hb1⟩ : ∃ b, decide (partsT 100 100 a ≤ 100) = b := ⟨_, rfl⟩
  obtain ⟨b2, hb2⟩ : ∃ z, decide (partsT 100 100 b ≤ 100) = z := ⟨_, rfl⟩
  rw [hb1] at C1
  rw [hb2] at C2
  have CR := Lib.hid (fun (h : b1 = true) (h' : b2 = true) => CR.out (by rw [h, decide_eq_true_eq] at hb1; exact hb1) (by rw [h', decide_eq_true_eq] at hb2; exact hb2))
  have CM := Lib.hid (fun (h : b1 = true) (h' : b2 = true) => CM.out (by rw [h, decide_eq_true_eq] at hb1; exact hb1) (by rw [h', decide_eq_true_eq] at hb2; exact hb2))
  have CN := Lib.hid (fun (h : b1 = true) (h' : b2 = true) => CN.out (by rw [h, decide_eq_true_eq] at hb1; exact hb1) (by rw [h', decide_eq_true_eq] at hb2; exact hb2))
  clear hb1 hb2
  generalize a.nm = pn at *
  generalize a.args.length = pa at *
  generalize b.nm = tn at *
  generalize b.args.length = ta at *
  unfold MtR at CM CR CN
  unfold Aw at AW'
  obtain ⟨⟨y1, y2, _⟩, z1, z2, _⟩ := HH.out _ (Below.refl _ _)
  go_enter Tryz.func6, Tryz.ntmps6
  go_upto_region 1 with fail
  rw [← hW2]
  clear hW2
  go_wp2_with fail
  refine (C1.out _ GG.out.1).mono ?_
  rintro e w3 ⟨rfl, g3⟩
  have D3 := Lib.hid (next0 GG.out.1 g3.1)
  have K3 := Lib.hid g3.1
  clear g3 y1 y2 z1 z2
  obtain ⟨⟨y1, y2, _⟩, z1, z2, _⟩ := HH.out _ K3.out
  cases b1
  · clear CM CR CN C1 C2
    go_wp2_with fail
    refine (AW'.out _ D3.out).mono ?_
    rintro e w4 ⟨rfl, k4⟩
    have D4 := Lib.hid (next0 D3.out k4)
    go_wp2_with fail
    go_ret
    exact ⟨rfl, D4.out⟩
  · go_wp2_with fail
    refine (C2.out _ D3.out).mono ?_
    rintro e w4 ⟨rfl, g4⟩
    have D4 := Lib.hid (next0 D3.out g4.1)
    have K4 := Lib.hid (next0 K3.out g4.1)
    clear g4 y1 y2 z1 z2
    obtain ⟨⟨y1, y2, _⟩, z1, z2, _⟩ := HH.out _ K4.out
    cases b2
    · clear CM CR CN C1 C2
      go_wp2_with fail
      refine (AW'.out _ D4.out).mono ?_
      rintro e w5 ⟨rfl, k5⟩
      have D5 := Lib.hid (next0 D4.out k5)
      go_wp2_with fail
      go_ret
      exact ⟨rfl, D5.out⟩
    · have CM4 := Lib.hid (CM.out (by trivial) (by trivial))
      have CN4 := Lib.hid (CN.out (by trivial) (by trivial))
      have CR4 := Lib.hid (CR.out (by trivial) (by trivial))
      clear CM CN CR
      go_wp2_with fail
      refine (CM4.out _ D4.out).mono ?_
      rintro e w5 ⟨v5, f5, rfl, h1, h2, k5⟩
      have D5 := Lib.hid (next0 D4.out k5)
      have K5 := Lib.hid (next0 K4.out k5)
      have M5 := Lib.hid (And.intro h1 h2)
      clear h1 h2 k5 y1 y2 z1 z2
      obtain ⟨⟨y1, y2, _⟩, z1, z2, _⟩ := HH.out _ K5.out
      go_wp2_with fail
      refine (CR4.out _ D5.out).mono ?_
      rintro e w6 ⟨v6, f6, rfl, h1, h2, k6⟩
      have D6 := Lib.hid (next0 D5.out k6)
      have K6 := Lib.hid (next0 K5.out k6)
      have B6 := Lib.hid k6
      have M6 := Lib.hid (And.intro h1 h2)
      clear h1 h2 k6 y1 y2 z1 z2
      obtain ⟨⟨y1, y2, _⟩, z1, z2, _⟩ := HH.out _ K6.out
      go_wp2_with fail
      refine (CN4.out _ D6.out).mono ?_
      rintro e w7 ⟨v7, f7, rfl, h1, h2, k7⟩
      have D7 := Lib.hid (next0 D6.out k7)
      have B7 := Lib.hid k7
      have B57 := Lib.hid (next0 B6.out k7)
      have M7 := Lib.hid (And.intro h1 h2)
      clear h1 h2 k7 y1 y2 z1 z2
      have key : Hid (f5 = f6 ∧ f5 = f7 ∧ ∃ s9, SIn (· < w7.heap.size) w7 s9 v5 ∧ SIn (· < w7.heap.size) w7 s9 v6 ∧ SIn (· < w7.heap.size) w7 s9 v7) := Lib.hid (by
        have lift : ∀ {w1 : World} {s9 : List Bd} {v : Value}, SIn (· < w1.heap.size) w1 s9 v → Below w1.heap.size w1 w7 → SIn (· < w7.heap.size) w7 s9 v := fun h k => (h.deep k (Nat.le_refl _)).wide fun b hb => Nat.lt_of_lt_of_le hb k.size
        cases f5
        · obtain ⟨ho, hv⟩ := M5.out.2 rfl
          cases f6
          · cases f7
            · rw [hv, (M6.out.2 rfl).2, (M7.out.2 rfl).2]
              exact ⟨rfl, rfl, [], SIn.nil _ _, SIn.nil _ _, SIn.nil _ _⟩
            · obtain ⟨s9, h9, _⟩ := M7.out.1 rfl
              rw [ho] at h9
              cases h9
          · obtain ⟨s9, h9, _⟩ := M6.out.1 rfl
            rw [ho] at h9
            cases h9
        · obtain ⟨s9, h9, hI⟩ := M5.out.1 rfl
          cases f6
          · rw [(M6.out.2 rfl).1] at h9
            cases h9
          · cases f7
            · rw [(M7.out.2 rfl).1] at h9
              cases h9
            · obtain ⟨s8, h8, hI8⟩ := M6.out.1 rfl
              obtain ⟨s7, h7, hI7⟩ := M7.out.1 rfl
              rw [h9] at h8 h7
              cases h8
              cases h7
              exact ⟨rfl, rfl, s9, lift hI B57.out, lift hI8 B7.out, hI7⟩)
      obtain ⟨rfl, rfl, s9, hI5, hI6, hI7⟩ := key.out
      have SA := Lib.hid (same_any s9 s9 true (by simp) w7.heap.size w7 v5 v6 (Nat.le_refl _) hI5 hI6)
      have SB := Lib.hid (fun w' (k : Below w7.heap.size w7 w') => same_any s9 s9 true (by simp) w7.heap.size w' v5 v7 k.size (hI5.deep k (Nat.le_refl _)) (hI7.deep k (Nat.le_refl _)))
      clear hI5 hI6 hI7 key M5 M6 M7 CM4 CN4 CR4
      have hff : (f5 == f5) = true := by simp
      go_wp2_with fail
      refine SA.out.mono ?_
      rintro e w8 ⟨rfl, g8⟩
      have D8 := Lib.hid (next0 D7.out g8.1)
      have SB8 := Lib.hid (SB.out w8 g8.1)
      clear g8 SA SB
      go_wp2_with fail
      refine SB8.out.mono ?_
      rintro e w9 ⟨rfl, g9⟩
      have D9 := Lib.hid (next0 D8.out g9.1)
      clear g9 SB8
      cases f5
      all_goals
        go_wp2_with fail
        refine (AW'.out _ D9.out).mono ?_
        rintro e w10 ⟨rfl, k10⟩
        have D10 := Lib.hid (next0 D9.out k10)
        go_wp2_with fail
        go_ret
        exact ⟨rfl, D10.out⟩
end UnuL
end Go.Proofs.YtjfgnmmcdgpiiaaGreatDoor
