/- slices.CompactFunc at literals under arranged's closure: of an ascending row each literal once, in place. Conditions: at most a million literals; what they hold lies in other blocks. -/
import Derived.Test.YtikkaiiinkeobaaGreatDoorNosP
import Derived.Deep.RegionHeld3
import Derived.Deep.DeepCutAuto
namespace Go.Proofs.YtikkaiiinkeobaaGreatDoor
open Go Go.RowKit
namespace NosB
open LexM TermM TermI Kit TermN TermU UniK UniM UnpP NorM NorA NorI NorR NosA NosP
/-- What CompactFunc leaves. -/
def Cptd (ok : Nat → Prop) (g cap : Nat) (L : List (Lt × Value)) (w : World) (e : Ending) (w' : World) : Prop :=
  ∃ C : List (Lt × Value), e = .returned (.slice (some ⟨g, 0, none⟩) C.length cap) ∧ Cm L C L.length ∧ Hd w' g (KL.flat C) ∧ (∀ x ∈ C, KL.inn ok w' x) ∧ Ch g w w' ∧ C.length ≤ L.length
theorem form_L {ok : Nat → Prop} {w : World} {x : Lt × Value} (h : KL.inn ok w x) : ∃ p n c, x.2 = .slice p n c := by
  obtain ⟨p, c, e⟩ := h.1.form
  exact ⟨p, _, c, e⟩
set_option maxRecDepth 100000 in
set_option maxHeartbeats 3200000 in
theorem compactf_any (ok : Nat → Prop) (w : World) (g cap n : Nat) (L : List (Lt × Value)) (hn : L.length = n) (hnn : n ≤ 1000000) (hc1 : n ≤ cap) (hs : SrtL L) (hok : ∀ b, ok b → b < w.heap.size ∧ b ≠ g) (hL : ∀ x ∈ L, KL.inn ok w x) (hd : Hd w g (KL.flat L)) :
    Calls Tryz.prog 75 #[.slice (some ⟨g, 0, none⟩) n cap, .func (.func 76) #[] #[]] w (Cptd ok g cap L w) := by
  have HS := Lib.hid hs
  have HN := Lib.hid hn
  have IN := Lib.hid (fun (w' : World) (h : Ch g w w') (x : Lt × Value) (hx : x ∈ L) => show KL.inn ok w' x from KL.keep (hL x hx) fun b o hb => h.cell (hok b hb).1 (hok b hb).2)
  have KC := Lib.hid (fun (x y : Lt × Value) (hx : x ∈ L) (hy : y ∈ L) (w' : World) (h : Ch g w w') => show Calls Tryz.prog 76 #[.agg #[.bool x.1.1, .string x.1.2.nm, x.2], .agg #[.bool y.1.1, .string y.1.2.nm, y.2]] w' (fun e w'' => e = .returned (.bool (cmpLt x.1 y.1 == 0)) ∧ Gr w' w'') from
    arr1_any x.1 y.1 w.heap.size w' x.2 y.2 h.size ((IN.out w' h x hx).1.weaken fun b hb => (hok b hb).1) ((IN.out w' h y hy).1.weaken fun b hb => (hok b hb).1) (IN.out w' h x hx).2 (IN.out w' h y hy).2)
  have FM := Lib.hid (fun (x : Lt × Value) (hx : x ∈ L) => form_L (hL x hx))
  have HD := Lib.hid hd
  clear hs hL hd hok
  unfold Cptd
  by_cases h2 : n < 2
  · have h2' : (n : Int) < 2 := by omega
    have CM : Hid (Cm L L n) := Lib.hid (by
      have e : L = L.take 1 := by rw [List.take_of_length_le (by omega)]
      refine ⟨?_, fun y => by rw [List.take_of_length_le (by omega)]⟩
      rw [e]
      exact Cm.one.1)
    go_enter Tryz.func75, Tryz.ntmps75
    go_wp2_with fail
    go_ret
    exact ⟨L, by rw [HN.out]; rfl, by rw [HN.out]; exact CM.out, HD.out, fun x hx => IN.out w (Ch.refl g w) x hx, Ch.refl g w, Nat.le_refl _⟩
  have C0 : Hid (Cm L (L.take 1) 1) := Lib.hid Cm.one
  have G0 : Hid (Gr w w) := Lib.hid (Gr.refl w)
  go_enter Tryz.func75, Tryz.ntmps75
  go_wp2_with fail
  go_loopw [5] (fun i wr => ∃ k : Nat, 1 ≤ k ∧ k ≤ n ∧ i = .int .i64 k ∧ Hid (Cm L (L.take k) k) ∧ Hid (Gr w wr)) (fun i _ => n - (intOf i).toNat)
  case atStart => exact ⟨1, Nat.le_refl _, by omega, rfl, C0, G0⟩
  case round =>
    clear C0 G0
    obtain ⟨k, hk1, hk, rfl, hC, hg⟩ := hrel
    have DR := Lib.hid (Hd.gr HD.out hg.out.1)
    have CR : Hid (Ch g w wr) := Lib.hid (Ch.of hg.out.1)
    by_cases hlt : k < n
    · obtain ⟨x, hx⟩ : ∃ x, L[k]? = some x := ⟨L[k]'(by rw [HN.out]; exact hlt), by simp⟩
      obtain ⟨y, hy⟩ : ∃ y, L[k - 1]? = some y := ⟨L[k - 1]'(by rw [HN.out]; omega), by simp⟩
      have hxm := List.mem_of_getElem? hx
      have hym := List.mem_of_getElem? hy
      obtain ⟨px, nx, cx, ex⟩ := FM.out x hxm
      obtain ⟨py, ny, cy, ey⟩ := FM.out y hym
      have K1 := Lib.hid (fun w' h => KC.out x y hxm hym w' h)
      rw [ex, ey] at K1
      obtain ⟨a1, a2, a3, a4, a5, a6, a7⟩ := Hd.at (K := KL) DR.out hx (a := .bool x.1.1) (b := .string x.1.2.nm) (c := .slice px nx cx) (by rw [← ex]; rfl)
      obtain ⟨b1, b2, b3, b4, b5, b6, b7⟩ := Hd.at (K := KL) DR.out hy (a := .bool y.1.1) (b := .string y.1.2.nm) (c := .slice py ny cy) (by rw [← ey]; rfl)
      have i1 : (0 : Int) ≤ (k : Int) - 1 := by omega
      have i2 : ((k : Int) - 1).toNat = k - 1 := by omega
      have i3 : (k : Int) - 1 < n := by omega
      have i5 : IntKind.i64.wrap ((k : Int) - 1) = (k : Int) - 1 := IntWalk.i64_in _ (by omega)
      have HX := Lib.hid hx
      have HY := Lib.hid hy
      have K2 := Lib.hid (fun w' (h : Gr wr w') => K1.out w' (CR.out.below h.1))
      clear K1 hx hy hxm hym a4 a5 a6 b4 b5 b6 b7
      by_cases hz : cmpLt x.1 y.1 = 0
      · have hz' : (cmpLt x.1 y.1 == 0) = true := by rw [hz]; rfl
        rw [hz'] at K2
        have I0 : Hid (In2 L L k (k + 1)) := Lib.hid (In2.start hC.out HY.out HX.out hk1 hz)
        clear hz hz'
        generalize x.1.1 = xb at *
        generalize x.1.2.nm = xn at *
        generalize y.1.1 = yb at *
        generalize y.1.2.nm = yn at *
        go_upto_region 6 with fail
        go_cut [28] (fun s28 wx => s28 = .bool true ∧ Hid (Gr wr wx))
        case first =>
          go_region_with (first | (go_at_call 76; refine (K2.out _ (by first | exact Gr.refl _ | exact Gr.drew _ | exact Gr.drewN _ _)).mono ?_; rintro e w3 ⟨rfl, g3⟩; have G3 : Hid (Gr wr w3) := Lib.hid (by first | exact g3 | exact (Gr.drew _).trans g3 | exact (Gr.drewN _ _).trans g3); clear g3))
          all_goals
            go_wp2_with fail
            go_meet
            exact ⟨rfl, G3⟩
        case rest =>
          obtain ⟨rfl, G3⟩ := hcut
          have D3 := Lib.hid (Hd.gr DR.out G3.out.1)
          have C3 := Lib.hid (CR.out.below G3.out.1)
          clear K2 a1 a2 a3 a7 b1 b2 b3 i1 i2 i3 i5 DR CR hg
          go_wp2_with fail
          go_loopw [5, 7] (fun v5 v7 wq => ∃ (q k2 : Nat) (M : List (Lt × Value)), v5 = .int .i64 q ∧ v7 = .int .i64 k2 ∧ 1 ≤ k2 ∧ k + k2 ≤ n ∧ Hid (In2 L M q (k + k2)) ∧ Hid (Hd wq g (KL.flat M)) ∧ Hid (Ch g w wq)) (fun _ v7 _ => n - (intOf v7).toNat)
          case atStart => exact ⟨k, 1, L, rfl, rfl, Nat.le_refl _, by omega, I0, D3, C3⟩
          case round =>
            clear I0 D3 C3 G3 hC HX HY
            obtain ⟨q, k2, M, rfl, rfl, h1, hle, hI, hD, hC2⟩ := hrel
            have hq := hI.out.2.1
            have hMl := hI.out.1
            by_cases hlt2 : k + k2 < n
            · obtain ⟨x2, hx⟩ : ∃ x, L[k + k2]? = some x := ⟨L[k + k2]'(by rw [HN.out]; exact hlt2), by simp⟩
              obtain ⟨y2, hy⟩ : ∃ y, L[k + k2 - 1]? = some y := ⟨L[k + k2 - 1]'(by rw [HN.out]; omega), by simp⟩
              obtain ⟨u2, hu⟩ : ∃ u, M[q]? = some u := ⟨M[q]'(by rw [hMl, HN.out]; omega), by simp⟩
              have hxM := (hI.out.2.2.2.2.1 (k + k2) (by omega)).trans hx
              have hyM := (hI.out.2.2.2.2.1 (k + k2 - 1) (by omega)).trans hy
              have hxm := List.mem_of_getElem? hx
              have hym := List.mem_of_getElem? hy
              obtain ⟨p1, n1, c1, e1⟩ := FM.out x2 hxm
              obtain ⟨p2, n2, c2, e2⟩ := FM.out y2 hym
              obtain ⟨p3, n3, c3, e3⟩ := FM.out u2 (hI.out.2.2.2.2.2 u2 (List.mem_of_getElem? hu))
              have K1 := Lib.hid (fun w' h => KC.out x2 y2 hxm hym w' h)
              have PX : Hid (∀ w', Hd w' g (KL.flat M) → Hd (((w'.setCell ⟨g, q * 3, none⟩ (.bool x2.1.1)).setCell ⟨g, q * 3 + 1, none⟩ (.string x2.1.2.nm)).setCell ⟨g, q * 3 + 2, none⟩ (.slice p1 n1 c1)) g (KL.flat (M.set q x2))) := Lib.hid (fun w' h => Hd.put3 h (by rw [hMl, HN.out]; omega) (by rw [← e1]; rfl))
              rw [e1, e2] at K1
              have K2 := Lib.hid (fun w' (h : Gr wr w') => K1.out w' (hC2.out.below h.1))
              have FX := Lib.hid (fun w' (h : Gr wr w') => Hd.at (K := KL) (Hd.gr hD.out h.1) hxM (a := .bool x2.1.1) (b := .string x2.1.2.nm) (c := .slice p1 n1 c1) (by rw [← e1]; rfl))
              have FY := Lib.hid (fun w' (h : Gr wr w') => Hd.at (K := KL) (Hd.gr hD.out h.1) hyM (a := .bool y2.1.1) (b := .string y2.1.2.nm) (c := .slice p2 n2 c2) (by rw [← e2]; rfl))
              have FU := Lib.hid (fun w' (h : Gr wr w') => Hd.at (K := KL) (Hd.gr hD.out h.1) hu (a := .bool u2.1.1) (b := .string u2.1.2.nm) (c := .slice p3 n3 c3) (by rw [← e3]; rfl))
              have HX := Lib.hid hx
              have HY := Lib.hid hy
              rw [show (k + k2) * 3 = k * 3 + k2 * 3 by omega] at FX
              rw [show (k + k2 - 1) * 3 = k * 3 + (k2 - 1) * 3 by omega] at FY
              obtain ⟨a1, a2, a3, a4, a5, a6, a7⟩ := FX.out wr (Gr.refl _)
              obtain ⟨b1, b2, b3, b4, b5, b6, b7⟩ := FY.out wr (Gr.refl _)
              have i1 : (0 : Int) ≤ (k2 : Int) - 1 := by omega
              have i2 : ((k2 : Int) - 1).toNat = k2 - 1 := by omega
              have i3 : (k2 : Int) - 1 < (n : Int) - k := by omega
              have i4 : (k2 : Int) < (n : Int) - k := by omega
              have i5 : IntKind.i64.wrap ((k2 : Int) - 1) = (k2 : Int) - 1 := IntWalk.i64_in _ (by omega)
              have i6 : k2 < n - k := by omega
              clear K1 hx hy hu hxm hym hxM hyM hMl a4 a5 a6 b4 b5 b6 b7 e1 e2 e3
              by_cases hz : cmpLt x2.1 y2.1 = 0
              · have hz' : (cmpLt x2.1 y2.1 == 0) = true := by rw [hz]; rfl
                rw [hz'] at K2
                have I2 : Hid (In2 L M q (k + (k2 + 1))) := Lib.hid (hI.out.skip HY.out HX.out hz)
                clear hz hz' PX FX FY FU HX HY
                generalize x2.1.1 = xb2 at *
                generalize x2.1.2.nm = xn2 at *
                generalize y2.1.1 = yb2 at *
                generalize y2.1.2.nm = yn2 at *
                go_upto_region 11 with fail
                go_cut [49] (fun s49 wx => s49 = .bool false ∧ Hid (Gr wr wx))
                case first =>
                  go_region_with (first | (go_at_call 76; refine (K2.out _ (by first | exact Gr.refl _ | exact Gr.drew _ | exact Gr.drewN _ _)).mono ?_; rintro e w3 ⟨rfl, g3⟩; have G3 : Hid (Gr wr w3) := Lib.hid (by first | exact g3 | exact (Gr.drew _).trans g3 | exact (Gr.drewN _ _).trans g3); clear g3))
                  all_goals
                    go_wp2_with fail
                    go_meet
                    exact ⟨rfl, G3⟩
                case rest =>
                  obtain ⟨rfl, G3⟩ := hcut
                  have D5 := Lib.hid (Hd.gr hD.out G3.out.1)
                  have C5 := Lib.hid (hC2.out.below G3.out.1)
                  clear K2 a1 a2 a3 a7 b1 b2 b3 i1 i2 i3 i4 i5 i6
                  go_wp2_with fail
                  go_roundw
                  case rel => exact ⟨q, k2 + 1, M, rfl, by go_num, by omega, by omega, I2, D5, C5⟩
                  case measure => simp [intOf]; omega
              · have hz' : (cmpLt x2.1 y2.1 == 0) = false := by simpa using hz
                rw [hz'] at K2
                have I2 : Hid (In2 L (M.set q x2) (q + 1) (k + (k2 + 1))) := Lib.hid (hI.out.keep HS.out HY.out HX.out hz)
                clear hz hz' HX HY FY
                generalize x2.1.1 = xb2 at *
                generalize x2.1.2.nm = xn2 at *
                generalize y2.1.1 = yb2 at *
                generalize y2.1.2.nm = yn2 at *
                generalize u2.1.1 = ub2 at *
                generalize u2.1.2.nm = un2 at *
                go_upto_region 11 with fail
                go_cut [49] (fun s49 wx => s49 = .bool true ∧ Hid (Gr wr wx))
                case first =>
                  go_region_with (first | (go_at_call 76; refine (K2.out _ (by first | exact Gr.refl _ | exact Gr.drew _ | exact Gr.drewN _ _)).mono ?_; rintro e w3 ⟨rfl, g3⟩; have G3 : Hid (Gr wr w3) := Lib.hid (by first | exact g3 | exact (Gr.drew _).trans g3 | exact (Gr.drewN _ _).trans g3); clear g3))
                  all_goals
                    go_wp2_with fail
                    go_meet
                    exact ⟨rfl, G3⟩
                case rest =>
                  obtain ⟨rfl, G3⟩ := hcut
                  have D5 := Lib.hid (PX.out _ (Hd.gr hD.out G3.out.1))
                  have C5 := Lib.hid ((((hC2.out.below G3.out.1).put (p := ⟨g, q * 3, none⟩) (Or.inl rfl) (.bool xb2)).put (p := ⟨g, q * 3 + 1, none⟩) (Or.inl rfl) (.string xn2)).put (p := ⟨g, q * 3 + 2, none⟩) (Or.inl rfl) (.slice p1 n1 c1))
                  clear K2 a1 a2 a3 a7 b1 b2 b3
                  obtain ⟨a1, a2, a3, a4, a5, a6, a7⟩ := FX.out wc G3.out
                  obtain ⟨b1, b2, b3, b4, b5, b6, b7⟩ := FU.out wc G3.out
                  clear FX FU a4 a5 a6 b7 i1 i2 i3 i5
                  go_wp2_with fail
                  go_roundw
                  case rel => exact ⟨q + 1, k2 + 1, M.set q x2, by go_num, by go_num, by omega, by omega, I2, D5, C5⟩
                  case measure => simp [intOf]; omega
            · have hend : k + k2 = n := by omega
              have I9 : Hid (Cm L (M.take q) n) := Lib.hid (by have := hI.out.2.2.2.1; rw [hend] at this; exact this)
              have hql : (M.take q).length = q := by rw [List.length_take, hMl, HN.out]; omega
              have TD : Hid (Hd wr g (KL.flat (M.take q))) := Lib.hid (by rw [flat_take]; exact Hd.take hD.out _)
              have MI : Hid (∀ x ∈ M.take q, x ∈ L) := Lib.hid (fun x hx => hI.out.2.2.2.2.2 x (List.mem_of_mem_take hx))
              have hfl : (KL.flat M).length = n * 3 := by rw [flat_len, hMl, HN.out]
              obtain ⟨vs, hcl⟩ := clear_any wr 25 47 (.agg #[.bool false, .string ⟨#[]⟩, .slice none 0 0]) #[.bool false, .string ⟨#[]⟩, .slice none 0 0] Tryz.underlying25 (fun w => by kernel_rfl) rfl (by intro v hv; simp at hv; rcases hv with rfl | rfl | rfl <;> rfl) g (q * 3) (n - q) (cap - q) (by omega) (fun j hj => by
                have hj' : j < (n - q) * 3 := hj
                rw [(hD.out (q * 3 + j) _ (List.getElem?_eq_getElem (by omega))).1]; rfl) (fun j hj => by
                have hj' : j < (n - q) * 3 := hj
                exact (hD.out (q * 3 + j) _ (List.getElem?_eq_getElem (by omega))).2)
              have T9 : Hid (Hd (wr.setCells g (q * 3) vs) g (KL.flat (M.take q))) := Lib.hid (by
                have := TD.out
                rw [flat_take] at this ⊢
                exact Hd.cut this vs)
              have C9 := Lib.hid (ch_setCells hC2.out vs (q * 3))
              have HQL := Lib.hid hql
              clear hfl hMl hql TD hD hI
              go_wp2_with fail
              go_ret
              exact ⟨M.take q, by rw [HQL.out]; rfl, by rw [HN.out]; exact I9.out, T9.out, fun x hx => IN.out _ C9.out x (MI.out x hx), C9.out, by rw [HQL.out, HN.out]; omega⟩
      · have hz' : (cmpLt x.1 y.1 == 0) = false := by simpa using hz
        rw [hz'] at K2
        have I0 : Hid (Cm L (L.take (k + 1)) (k + 1)) := Lib.hid (by rw [take_get L k x HX.out]; exact hC.out.keep HS.out HY.out HX.out hk1 hz)
        clear hz hz'
        generalize x.1.1 = xb at *
        generalize x.1.2.nm = xn at *
        generalize y.1.1 = yb at *
        generalize y.1.2.nm = yn at *
        go_upto_region 6 with fail
        go_cut [28] (fun s28 wx => s28 = .bool false ∧ Hid (Gr wr wx))
        case first =>
          go_region_with (first | (go_at_call 76; refine (K2.out _ (by first | exact Gr.refl _ | exact Gr.drew _ | exact Gr.drewN _ _)).mono ?_; rintro e w3 ⟨rfl, g3⟩; have G3 : Hid (Gr wr w3) := Lib.hid (by first | exact g3 | exact (Gr.drew _).trans g3 | exact (Gr.drewN _ _).trans g3); clear g3))
          all_goals
            go_wp2_with fail
            go_meet
            exact ⟨rfl, G3⟩
        case rest =>
          obtain ⟨rfl, G3⟩ := hcut
          have G5 := Lib.hid (hg.out.trans G3.out)
          clear K2 a1 a2 a3 a7 b1 b2 b3 i1 i2 i3 i5 DR CR
          go_wp2_with fail
          go_roundw
          case rel => exact ⟨k + 1, by omega, by omega, by go_num, I0, G5⟩
          case measure => simp [intOf]; omega
    · obtain rfl : k = n := by omega
      have I9 : Hid (Cm L L k) := Lib.hid (by have := hC.out; rwa [List.take_of_length_le (by rw [HN.out]; exact Nat.le_refl _)] at this)
      clear hg
      go_wp2_with fail
      go_ret
      exact ⟨L, by rw [HN.out]; rfl, by rw [HN.out]; exact I9.out, DR.out, fun x hx => IN.out _ CR.out x hx, CR.out, Nat.le_refl _⟩
end NosB
end Go.Proofs.YtikkaiiinkeobaaGreatDoor
