/- Texts laid together: RdE; RdF. Their own heads stand before each. -/
import Derived.Test.YtdkpflojdnkbnaaGreatDoorHAV
import Derived.Test.YtdkpflojdnkbnaaGreatDoorHAJ
import Derived.Test.YtdkpflojdnkbnaaGreatDoorHAW
import Derived.Test.YtdkpflojdnkbnaaGreatDoorHAE
import Derived.OwnWalk
import Derived.Deep.AppendLies
import Derived.WalkSpells
/- gameplayerplain's reader in memory: rule. Condition: a trusted text of at most a million bytes. -/
namespace Go.Proofs.YtdkpflojdnkbnaaGreatDoor
open Go Go.RowKit
namespace RdE
open Kit LexM TermM TermI TermN TermU UniK UniD RdM RdN RdA RdB RdC RdD
/-- What rule leaves. -/
def RuQ (r : Nat) (s : ByteArray) (o : Rl × List UInt8) (w : World) (e : Ending) (w' : World) : Prop :=
  ∃ (q : Option Addr) (d : Nat) (v : Value), e = .returned (.agg #[.string o.1.1.nm, .slice q o.1.1.args.length d, v]) ∧ SlIn (fun b => w.heap.size ≤ b ∧ b < w'.heap.size) w' o.1.1.args (.slice q o.1.1.args.length d) ∧ LIn (fun b => w.heap.size ≤ b ∧ b < w'.heap.size) w' o.1.2 v ∧ o.1.1.nm.size ≤ maxLen ∧ Rd w' r s o.2 ∧ Ch r w w'
/-- What rule keeps in memory: the result's cell, the rule in the making at T, its literals in blocks behind T. -/
def KP (r T : Nat) (u : Tm) (q : Option Addr) (d : Nat) (L : List (Lt × Value)) (v : Value) (w wr : World) : Prop :=
  OwnG KL (T + 1) wr L v ∧ Has wr T #[.string u.nm, .slice q u.args.length d, v] ∧ Has wr w.heap.size #[.string ⟨#[]⟩, .slice none 0 0, .slice none 0 0] ∧ SlIn (fun b => w.heap.size + 1 ≤ b ∧ b < T) wr u.args (.slice q u.args.length d) ∧ Ch r w wr
theorem KP.ch {r T : Nat} {u : Tm} {q : Option Addr} {d : Nat} {L : List (Lt × Value)} {v : Value} {w wr w' : World} (h : KP r T u q d L v w wr) (hr : r < w.heap.size) (hT : w.heap.size < T) (X : Ch r wr w') : KP r T u q d L v w w' := by
  obtain ⟨h1, h2, h3, h4, h5⟩ := h
  have hl := h2.lt
  exact ⟨h1.ch X (by omega), X.has h2 (by omega), X.has h3 (by omega), h4.frame fun b o hb => X.cell (by omega) (by omega), h5.trans X⟩
theorem KP.drew {r T : Nat} {u : Tm} {q : Option Addr} {d : Nat} {L : List (Lt × Value)} {v : Value} {w wr : World} (h : KP r T u q d L v w wr) (hr : r < w.heap.size) (hT : w.heap.size < T) (n : Nat) : KP r T u q d L v w (wr.drewN n) := h.ch hr hT (Ch.of (below_drewN (Below.refl _ _) n))
theorem fin_rule {r T : Nat} {s : ByteArray} {u : Tm} {q : Option Addr} {d : Nat} {L : List (Lt × Value)} {v : Value} {m : List UInt8} {w wx : World} (h : KP r T u q d L v w wx) (hr : r < w.heap.size) (hT : w.heap.size < T) (hN : u.nm.size ≤ maxLen) (hD : Rd wx r s m) (a b c : Value) :
    RuQ r s ((u, L.map (·.1)), m) w (.returned (.agg #[.string u.nm, .slice q u.args.length d, v])) (((wx.setCell ⟨w.heap.size, 0, none⟩ a).setCell ⟨w.heap.size, 1, none⟩ b).setCell ⟨w.heap.size, 2, none⟩ c) := by
  obtain ⟨h1, h2, h3, h4, h5⟩ := h
  have hl := h2.lt
  have far : ∀ k o, w.heap.size < k → (((wx.setCell ⟨w.heap.size, 0, none⟩ a).setCell ⟨w.heap.size, 1, none⟩ b).setCell ⟨w.heap.size, 2, none⟩ c).cell? ⟨k, o, none⟩ = wx.cell? ⟨k, o, none⟩ := fun k o hk => by
    rw [cell_far (by show k ≠ w.heap.size; omega), cell_far (by show k ≠ w.heap.size; omega), cell_far (by show k ≠ w.heap.size; omega)]
  have hsz : (((wx.setCell ⟨w.heap.size, 0, none⟩ a).setCell ⟨w.heap.size, 1, none⟩ b).setCell ⟨w.heap.size, 2, none⟩ c).heap.size = wx.heap.size := by simp [World.setCell]
  refine ⟨q, d, v, rfl, ?_, ?_, hN, Rd.far (Rd.far (Rd.far hD (by show r ≠ w.heap.size; omega) _) (by show r ≠ w.heap.size; omega) _) (by show r ≠ w.heap.size; omega) _, ((h5.put (Or.inr (Nat.le_refl _)) _).put (Or.inr (Nat.le_refl _)) _).put (Or.inr (Nat.le_refl _)) _⟩
  · exact (h4.frame fun k o hk => far k o (by omega)).weaken fun k hk => ⟨by omega, by omega⟩
  · exact ⟨L, rfl, (h1.row.keep fun k o hk => far k o (by omega)).wide fun k hk => ⟨by omega, by omega⟩⟩
def LR (r T : Nat) (s : ByteArray) (u : Tm) (q : Option Addr) (d : Nat) (l2 : List UInt8) (w : World) (gk : Nat) (wr : World) : Prop :=
  ∃ (L : List (Lt × Value)) (v : Value) (m : List UInt8), m.length = gk ∧ m.length ≤ l2.length ∧ body l2 = (L.map (·.1) ++ (body m).1, (body m).2) ∧ KP r T u q d L v w wr ∧ Rd wr r s m
theorem lr_len {L : List (Lt × Value)} {l1 m : List UInt8} (h : body l1 = (L.map (·.1) ++ (body m).1, (body m).2)) (hl : l1.length ≤ 1000000) : L.length ≤ 1000001 := by
  have h1 : (body l1).1.length ≤ l1.length + 1 := (body_le (l1.length + 1) l1).1
  have h2 : (body l1).1.length = L.length + (body m).1.length := by rw [h]; simp
  omega
theorem b_more {l1 m : List UInt8} {L : List (Lt × Value)} (h : body l1 = (L.map (·.1) ++ (body m).1, (body m).2)) (hm : m ≠ []) (hs : (signL 46 m).1 = false) (hw : (wd2 m).1 ≠ []) (v1 : Value) :
    body l1 = ((L ++ [((isNot m, (term (wd2 m).1 (wd2 m).2).1), v1)]).map (·.1) ++ (body (term (wd2 m).1 (wd2 m).2).2).1, (body (term (wd2 m).1 (wd2 m).2).2).2) := by
  rw [h, body_more hm hs hw]
  simp
theorem bs_list (l : List UInt8) : (bs l).toList = l := by rw [ByteArray.toList_eq]; simp [bs]
theorem not_no {m : List UInt8} (h : isNot m = false) : wd2 m = wd1 m := by unfold wd2; rw [if_neg (by rw [h]; decide)]
theorem not_yes {m : List UInt8} (h : isNot m = true) : wd2 m = wordL (wd1 m).2 := by unfold wd2; rw [if_pos h]
theorem b_stop {l1 m : List UInt8} {L : List (Lt × Value)} (h : body l1 = (L.map (·.1) ++ (body m).1, (body m).2)) (hm : m ≠ []) (hs : (signL 46 m).1 = false) (hw : (wd2 m).1 = []) : body l1 = (L.map (·.1), (wd2 m).2) := by
  rw [h, body_stop hm hs hw]
  simp
theorem KP.app {r T : Nat} {u u1 : Tm} {q : Option Addr} {d lo g cap : Nat} {nt : Bool} {v1 : Value} {s : ByteArray} {l3 : List UInt8} {o : Obj} {L : List (Lt × Value)} {v : Value} {w w8 w9 : World} (h : KP r T u q d L v w w8) (hr : r < w.heap.size) (hT : w.heap.size < T)
    (hs : SlIn (fun b => lo ≤ b ∧ b < w8.heap.size) w8 u1.args v1) (hn : u1.nm.size ≤ maxLen) (hlo : T + 1 ≤ lo) (hv : ∀ k, v.ownBlock = some k → k < lo)
    (hown : w9.ownsRow (T + 1) 47 3 (.slice (some ⟨g, 0, none⟩) (L.length + 1) cap) (L.length + 1) (KL.flat L ++ [.bool nt, .string u1.nm, v1])) (hgrow : (w8.alloc o).grownBy w9 v.ownBlock) (hat : v.ownBlock = some g ∨ g = w8.heap.size + 1) (hD : Rd w8 r s l3) :
    KP r T u q d (L ++ [((nt, u1), v1)]) (.slice (some ⟨g, 0, none⟩) (L.length + 1) cap) w (w9.setCell ⟨T, 2, none⟩ (.slice (some ⟨g, 0, none⟩) (L.length + 1) cap)) ∧ Rd (w9.setCell ⟨T, 2, none⟩ (.slice (some ⟨g, 0, none⟩) (L.length + 1) cap)) r s l3 := by
  obtain ⟨h1, h2, h3, h4, h5⟩ := h
  have hl := h2.lt
  have hb := h1.1.lt
  have hrow : ∀ k, v.ownBlock = some k → T + 1 ≤ k := fun k hk => (hb k hk).1
  have nT : v.ownBlock ≠ some T := fun e => by have := hrow _ e; omega
  have nR : v.ownBlock ≠ some w.heap.size := fun e => by have := hrow _ e; omega
  have nr : v.ownBlock ≠ some r := fun e => by have := hrow _ e; omega
  have O9 : OwnG KL (T + 1) w9 (L ++ [((nt, u1), v1)]) (.slice (some ⟨g, 0, none⟩) (L.length + 1) cap) := OwnG.add (x := ((nt, u1), v1)) h1 ⟨hs, hn⟩ hlo hv hown hgrow hat
  refine ⟨⟨O9.ch (Ch.put (Ch.refl T w9) (p := ⟨T, 2, none⟩) (Or.inl rfl) _) (by omega), (UniD.Has.grown (h2.alloc _) hgrow nT).set 2 _, (UniD.Has.grown (h3.alloc _) hgrow nR).far (p := ⟨T, 2, none⟩) (by show w.heap.size ≠ T; omega) _, ?_, ?_⟩, Rd.far (rd_grown hD o hgrow nr) (p := ⟨T, 2, none⟩) (by show r ≠ T; omega) _⟩
  · refine h4.frame fun b o' hk => ?_
    rw [cell_far (by show b ≠ T; omega)]
    refine World.cell?_of_block (w := w8) (a := ⟨b, o', none⟩) ?_
    exact (hgrow.block b (by simp; omega) (fun e => by have := hrow b e.symm; omega)).trans (Below.heap_alloc _ _ _ (by omega))
  · exact ((h5.alloc o).grown hgrow (fun k hk => by have := hrow k hk; omega)).put (p := ⟨T, 2, none⟩) (Or.inr (by show w.heap.size ≤ T; omega)) _
set_option maxRecDepth 100000 in
set_option maxHeartbeats 6400000 in
theorem rule_mem (s : ByteArray) (hok : ∀ c ∈ s.data.toList, okB c = true) (r : Nat) (n l : List UInt8) (w : World) (hn : n.length ≤ 1000000) (h : Rd w r s l) :
    Calls Tryz.prog 55 #[.pointer (some ⟨r, 0, none⟩), .string (bs n)] w (RuQ r s (rule n l) w) := by
  obtain ⟨i0, hi, hz0, hz1, hz2⟩ := info_parts Tryz.infoL
  have hs0 := h.1
  have hr := h.lt
  have hll := Rd.len h
  obtain ⟨W1, hW1⟩ : ∃ W1, W1 = w.alloc (.cells #[.string ⟨#[]⟩, .slice none 0 0, .slice none 0 0] 27) := ⟨_, rfl⟩
  have B1 : Hid (Below w.heap.size w W1) := Lib.hid (by rw [hW1]; exact below_alloc _ _)
  have R1 : Hid (Has W1 w.heap.size #[.string ⟨#[]⟩, .slice none 0 0, .slice none 0 0]) := Lib.hid (by rw [hW1]; exact Has.new w _ _)
  have hz1w : W1.heap.size = w.heap.size + 1 := by rw [hW1]; simp
  have C1 : Hid (Ch r w W1) := Lib.hid (Ch.of B1.out)
  have TM := Lib.hid (fun (m k : List UInt8) w' (hm : m.length ≤ 1000000) (g : Rd w' r s k) => term_mem s hok r k.length m k w' rfl hm g)
  have T0 := Lib.hid (fun w' (b : Below W1.heap.size W1 w') => TM.out n l w' hn ((h.below B1.out).below b))
  have S46 := Lib.hid (fun m w' (k : Rd w' r s m) => show Calls Tryz.prog 97 #[.pointer (some ⟨r, 0, none⟩), .int .u8 46] w' (SgQ r s (signL 46 m) w') from sign_any s m 46 w' r k)
  have WD := Lib.hid (fun m w' (k : Rd w' r s m) => word_any s m w' r hok k)
  have HO := Lib.hid (rule_eq n l)
  have TL := term_le n l
  unfold TmQ at TM T0
  unfold SgQ at S46
  unfold WdQ at WD
  generalize rule n l = O at *
  generalize term n l = o2 at *
  generalize hu : o2.1 = u at *
  clear hu
  generalize hl2 : o2.2 = l2 at *
  clear hl2
  have hl1 : l2.length ≤ 1000000 := by omega
  clear h TL
  generalize bs n = nb at *
  go_enter Tryz.func55, Tryz.ntmps55
  go_upto_region 1 with fail
  rw [← hW1]
  clear hW1
  go_wp2_with fail
  refine (T0.out _ (Below.refl _ _)).mono ?_
  rintro e w2 ⟨q, d, rfl, hS2, hn2, hR2, hC2⟩
  have R2 := Lib.hid (hC2.has R1.out (by omega))
  have hz2w : w.heap.size + 1 ≤ w2.heap.size := by have := R2.out.lt; omega
  have L0 : Hid (LR r w2.heap.size s u q d l2 w l2.length (w2.alloc (.cells #[.string u.nm, .slice q u.args.length d, .slice none 0 0] 27))) := Lib.hid ⟨[], _, l2, rfl, Nat.le_refl _, by simp, ⟨OwnG.nil _ _, Has.new _ _ _, R2.out.alloc _, (hS2.frame fun b o hb => (below_alloc w2 _).cell (p := ⟨b, o, none⟩) hb.2).weaken fun b hb => ⟨by omega, hb.2⟩, (C1.out.trans hC2).alloc _⟩, hR2.below (below_alloc _ _)⟩
  have HN2 := Lib.hid hn2
  clear hS2 hR2 hC2 hn2 R2 T0 R1 C1 B1
  go_wp2_with fail
  go_loopg [] l2.length (fun gk wr => Hid (LR r w2.heap.size s u q d l2 w gk wr))
  case atStart => exact L0
  case round =>
    clear L0
    obtain ⟨L, v, m, hm, hml, hA, hK, hD⟩ := hrel.out
    obtain ⟨va, vc, rfl⟩ := hK.1.form
    obtain ⟨_, k, hk, hd, hH⟩ := hD
    obtain ⟨f1, f2, f3, f4, f5⟩ := hH.two
    have HM := Lib.hid hm
    have HA := Lib.hid hA
    have HK := Lib.hid hK
    have HH := Lib.hid hH
    have HML := Lib.hid (lr_len hA hl1)
    have HML1 := Lib.hid hml
    clear hm hA hK hH hrel hml
    cases m with
    | nil =>
      have hkn : k = s.size := by simpa using hk
      have c1 : decide (k < s.size) = false := by rw [hkn]; simp
      have HAF : Hid (body l2 = (L.map (·.1), [])) := Lib.hid (by rw [HA.out, body_nil, List.append_nil])
      have DD : Hid (Rd wr r s []) := Lib.hid ⟨hs0, k, hk, hd, HH.out⟩
      clear hk hd hkn TM S46 WD
      go_wp2_with fail
      go_quiet (fail)
      have KX := Lib.hid (HK.out.drew hr (by omega) nq)
      have DX := Lib.hid (DD.out.below (below_drewN (Below.refl _ _) nq))
      clear f1 f2 f3 f4 f5
      obtain ⟨y1, y2, y3, y4, y5, y6, y7⟩ := UnpP.has3 KX.out.2.1
      obtain ⟨e1, e2, e3, e4, e5, e6, e7⟩ := UnpP.has3 KX.out.2.2.1
      obtain ⟨r1, r2, r3⟩ := UniA.three (UnmH.put3 KX.out.2.2.1 (.string u.nm) (.slice q u.args.length d) (.slice va L.length vc))
      go_wp2_with fail
      refine bodyPost_ret (v := .agg #[.string u.nm, .slice q u.args.length d, .slice va L.length vc]) (by simp [results, Tryz.results55, go_sem, r1, r2, r3]) rfl ?_
      rw [HO.out, HAF.out]
      exact fin_rule KX.out hr (by omega) HN2.out DX.out _ _ _
    | cons c m =>
      obtain ⟨hks, hxb⟩ := byte_at hk hd
      clear hxb
      have c1 : decide (k < s.size) = true := by simpa using hks
      have DD : Hid (Rd wr r s (c :: m)) := Lib.hid ⟨hs0, k, hk, hd, HH.out⟩
      have hne : Hid ((c :: m) ≠ []) := Lib.hid (by simp)
      have HML2 : Hid ((c :: m).length ≤ 1000000) := Lib.hid (Rd.len DD.out)
      have HGK : Hid (gk = (c :: m).length) := Lib.hid HM.out.symm
      clear hk hd hks HM
      generalize hmm : (c :: m) = mm at *
      clear hmm
      have S4 := Lib.hid (fun w' (g : Below wr.heap.size wr w') => S46.out mm w' (DD.out.below g))
      cases hb : (signL 46 mm).1
      · rw [hb] at S4
        have WS := Lib.hid (fun (w' : World) (g : Rd w' r s (signL 46 mm).2) => WD.out _ w' g)
        have WS1 := Lib.hid (fun (w' : World) (g : Rd w' r s (wordL (signL 46 mm).2).2) => show Calls Tryz.prog 54 #[.pointer (some ⟨r, 0, none⟩)] w' (fun e w'' => e = .returned (.string (bs (wd1 mm).1)) ∧ Rd w'' r s (wd1 mm).2 ∧ Ch r w' w'') from WD.out _ w' g)
        clear S46
        go_wp2_with fail
        go_region_law (first
          | (go_simp; go_at_call 97; refine (S4.out _ (by first | exact Below.refl _ _ | exact (Below.refl _ _).drew | exact below_drewN (Below.refl _ _) _)).mono ?_; rintro e w4 ⟨rfl, hR4, hC4⟩; have X4 : Ch r wr w4 := (by first | exact hC4 | exact (Ch.of (Below.refl _ _).drew).trans hC4 | exact (Ch.of (below_drewN (Below.refl _ _) _)).trans hC4); have D4 := Lib.hid hR4; have K4 := Lib.hid (HK.out.ch hr (by omega) X4); clear hR4 hC4))
        all_goals
          go_wp2_with fail
          refine (WS.out _ D4.out).mono ?_
          rintro e w5 ⟨rfl, hR5, hC5⟩
          have K5 := Lib.hid (K4.out.ch hr (by omega) hC5)
          have D5 := Lib.hid hR5
          clear K4 D4 S4 X4 hR5 hC5 f1 f2 f3 f4 f5 HH
          go_wp2_with fail
          refine (WS1.out _ D5.out).mono ?_
          rintro e w6 ⟨rfl, hR6, hC6⟩
          have K6 := Lib.hid (K5.out.ch hr (by omega) hC6)
          have D6 := Lib.hid hR6
          clear K5 D5 hR6 hC6
          have WS2 := Lib.hid (fun (h : isNot mm = true) (w' : World) (g : Rd w' r s (wd1 mm).2) => show Calls Tryz.prog 54 #[.pointer (some ⟨r, 0, none⟩)] w' (fun e w'' => e = .returned (.string (bs (wd2 mm).1)) ∧ Rd w'' r s (wd2 mm).2 ∧ Ch r w' w'') from (not_yes h) ▸ WD.out _ w' g)
          clear WD
          cases hno : isNot mm
          · clear WS2
            have n1 : ((bs (wd1 mm).1).toList == [110, 111, 116]) = false := by rw [bs_list]; exact hno
            by_cases hW : (wd1 mm).1 = []
            · have HAF := Lib.hid (b_stop HA.out hne.out hb (by rw [not_no hno]; exact hW))
              rw [not_no hno] at HAF
              have n2 : (bs (wd1 mm).1).toList.isEmpty = true := by rw [bs_list, hW]; rfl
              clear hW
              obtain ⟨y1, y2, y3, y4, y5, y6, y7⟩ := UnpP.has3 K6.out.2.1
              obtain ⟨e1, e2, e3, e4, e5, e6, e7⟩ := UnpP.has3 K6.out.2.2.1
              obtain ⟨r1, r2, r3⟩ := UniA.three (UnmH.put3 K6.out.2.2.1 (.string u.nm) (.slice q u.args.length d) (.slice va L.length vc))
              go_wp2_with fail
              refine bodyPost_ret (v := .agg #[.string u.nm, .slice q u.args.length d, .slice va L.length vc]) (by simp [results, Tryz.results55, go_sem, r1, r2, r3]) rfl ?_
              rw [HO.out, HAF.out]
              exact fin_rule K6.out hr (by omega) HN2.out D6.out _ _ _
            · have n2 : (bs (wd1 mm).1).toList.isEmpty = false := by rw [bs_list]; simpa using hW
              have BM := Lib.hid (b_more HA.out hne.out hb (by rw [not_no hno]; exact hW))
              have W9 := wd2_len mm
              have LW : (wd1 mm).1.length + (wd1 mm).2.length ≤ mm.length := by rw [← not_no hno]; exact W9
              have hWp : 0 < (wd1 mm).1.length := List.length_pos_iff.2 hW
              have hml2 := HML2.out
              have T7 := Lib.hid (fun w' (g : Below w6.heap.size w6 w') => TM.out (wd1 mm).1 (wd1 mm).2 w' (by omega) (D6.out.below g))
              have TL := Lib.hid (term_le (wd1 mm).1 (wd1 mm).2)
              have HL2 : Hid ((wd1 mm).2.length < mm.length) := Lib.hid (by omega)
              rw [hno, not_no hno] at BM
              have hvl : Hid (∀ j, (Value.slice va L.length vc).ownBlock = some j → w2.heap.size + 1 ≤ j ∧ j < w6.heap.size) := Lib.hid (fun j hj => K6.out.1.1.lt j hj)
              have hTl : w2.heap.size < w6.heap.size := K6.out.2.1.lt
              have hMl := HML.out
              have A1 : L.length + 1 ≤ maxLen := by unfold maxLen; omega
              have A2 : (L.length + 1) * 48 ≤ 140737488355328 := by omega
              have hm1 := HML1.out
              have hgk := HGK.out
              clear TM WS WS1 W9 LW hWp HA DD HML HGK HML1 HML2 hMl HK
              obtain ⟨y1, y2, y3, y4, y5, y6, y7⟩ := UnpP.has3 K6.out.2.1
              generalize hO3 : term (wd1 mm).1 (wd1 mm).2 = o3 at *
              clear hO3
              generalize (wd1 mm).1 = W at *
              generalize hu : o3.1 = u1 at *
              clear hu
              generalize hl3 : o3.2 = l3 at *
              clear hl3
              go_wp2_with fail
              go_region_law (first
                | (refine step_append_lies _ rfl _ _ 25 rfl (w2.heap.size + 1) 47 i0 (.agg #[.bool false, .string ⟨#[]⟩, .slice none 0 0]) 3 48 Tryz.underlying25 hi hz0 hz1 hz2 rfl (by decide) (.slice va L.length vc) L.length (KL.flat L) rfl (K8.out.1.1.alloc _) ⟨w8.heap.size, 0, none⟩ 1 1 [.bool false, .string u1.nm, .slice q1 u1.args.length c1'] rfl rfl (newsK _ _ _ _ _) (one_L _ _ _ _ _) (by decide) A1 A2 A3 (w8.heap.size + 1) (by simp) ?_; intro g cap w9 hown hgrow hat hlt9; have KD := Lib.hid (KP.app (nt := false) (l3 := l3) (s := s) K8.out hr (by omega) S8.out NU.out (by omega) (fun k hk => (hvl.out k hk).2) hown hgrow hat D8.out); have TT := UniD.Has.grown (K8.out.2.1.alloc (.cells #[.bool false, .string u1.nm, .slice q1 u1.args.length c1'] 47)) hgrow (fun e => by have := (hvl.out _ e).1; omega); clear hown hgrow hat; obtain ⟨t1, t2, t3, t4, t5, t6, t7⟩ := UnpP.has3 TT; clear TT)
                | (go_simp; go_at_call 96; refine (T7.out _ (by first | exact Below.refl _ _ | exact (Below.refl _ _).drew | exact below_drewN (Below.refl _ _) _)).mono ?_; rintro e w8 ⟨q1, c1', rfl, s8, nu, rd8, ch8⟩; have X8 : Ch r w6 w8 := (by first | exact ch8 | exact (Ch.of (Below.refl _ _).drew).trans ch8 | exact (Ch.of (below_drewN (Below.refl _ _) _)).trans ch8); have S8 := Lib.hid (s8.weaken (ok' := fun b => w6.heap.size ≤ b ∧ b < w8.heap.size) (fun b hb => hb)); have NU := Lib.hid nu; have D8 := Lib.hid rd8; have K8 := Lib.hid (K6.out.ch hr (by omega) X8); have A3 : w2.heap.size + 1 ≤ (w8.alloc (.cells #[.bool false, .string u1.nm, .slice q1 u1.args.length c1'] 47)).heap.size := (by have := K8.out.2.1.lt; simp; omega); clear s8 nu rd8 ch8 X8; obtain ⟨z1, z2, z3, z4, z5, z6, z7⟩ := UnpP.has3 K8.out.2.1))
              all_goals
                have G9 : Hid (LR r w2.heap.size s u q d l2 w l3.length (w9.setCell ⟨w2.heap.size, 2, none⟩ (.slice (some ⟨g, 0, none⟩) (L.length + 1) cap))) := Lib.hid ⟨L ++ [((false, u1), .slice q1 u1.args.length c1')], _, l3, rfl, by have := HL2.out; have := TL.out; omega, BM.out _, by have := KD.out.1; simpa using this, KD.out.2⟩
                have HL9 : Hid (l3.length < gk) := Lib.hid (by have := HL2.out; have := TL.out; omega)
                clear KD S8 NU D8 K8 z1 z2 z3 z4 z5 z6 z7 y1 y2 y3 y4 y5 y6 y7
                go_wp2_with fail
                go_roundg (l3.length)
                case rel => exact G9
                case measure => exact HL9.out
          · have n1 : ((bs (wd1 mm).1).toList == [110, 111, 116]) = true := by rw [bs_list]; exact hno
            go_wp2_with fail
            refine (WS2.out hno _ D6.out).mono ?_
            rintro e w7 ⟨rfl, hR7, hC7⟩
            have K7 := Lib.hid (K6.out.ch hr (by omega) hC7)
            have D7 := Lib.hid hR7
            clear K6 D6 hR7 hC7 WS2
            by_cases hW : (wd2 mm).1 = []
            · have HAF := Lib.hid (b_stop HA.out hne.out hb hW)
              have n2 : (bs (wd2 mm).1).toList.isEmpty = true := by rw [bs_list, hW]; rfl
              clear hW
              obtain ⟨y1, y2, y3, y4, y5, y6, y7⟩ := UnpP.has3 K7.out.2.1
              obtain ⟨e1, e2, e3, e4, e5, e6, e7⟩ := UnpP.has3 K7.out.2.2.1
              obtain ⟨r1, r2, r3⟩ := UniA.three (UnmH.put3 K7.out.2.2.1 (.string u.nm) (.slice q u.args.length d) (.slice va L.length vc))
              go_wp2_with fail
              refine bodyPost_ret (v := .agg #[.string u.nm, .slice q u.args.length d, .slice va L.length vc]) (by simp [results, Tryz.results55, go_sem, r1, r2, r3]) rfl ?_
              rw [HO.out, HAF.out]
              exact fin_rule K7.out hr (by omega) HN2.out D7.out _ _ _
            · have n2 : (bs (wd2 mm).1).toList.isEmpty = false := by rw [bs_list]; simpa using hW
              have BM := Lib.hid (b_more HA.out hne.out hb (by exact hW))
              have W9 := wd2_len mm
              have LW : (wd2 mm).1.length + (wd2 mm).2.length ≤ mm.length := by exact W9
              have hWp : 0 < (wd2 mm).1.length := List.length_pos_iff.2 hW
              have hml2 := HML2.out
              have T7 := Lib.hid (fun w' (g : Below w7.heap.size w7 w') => TM.out (wd2 mm).1 (wd2 mm).2 w' (by omega) (D7.out.below g))
              have TL := Lib.hid (term_le (wd2 mm).1 (wd2 mm).2)
              have HL2 : Hid ((wd2 mm).2.length < mm.length) := Lib.hid (by omega)
              rw [hno] at BM
              have hvl : Hid (∀ j, (Value.slice va L.length vc).ownBlock = some j → w2.heap.size + 1 ≤ j ∧ j < w7.heap.size) := Lib.hid (fun j hj => K7.out.1.1.lt j hj)
              have hTl : w2.heap.size < w7.heap.size := K7.out.2.1.lt
              have hMl := HML.out
              have A1 : L.length + 1 ≤ maxLen := by unfold maxLen; omega
              have A2 : (L.length + 1) * 48 ≤ 140737488355328 := by omega
              have hm1 := HML1.out
              have hgk := HGK.out
              clear TM WS WS1 W9 LW hWp HA DD HML HGK HML1 HML2 hMl HK
              obtain ⟨y1, y2, y3, y4, y5, y6, y7⟩ := UnpP.has3 K7.out.2.1
              generalize hO3 : term (wd2 mm).1 (wd2 mm).2 = o3 at *
              clear hO3
              generalize (wd2 mm).1 = W at *
              generalize hu : o3.1 = u1 at *
              clear hu
              generalize hl3 : o3.2 = l3 at *
              clear hl3
              go_wp2_with fail
              go_region_law (first
                | (refine step_append_lies _ rfl _ _ 25 rfl (w2.heap.size + 1) 47 i0 (.agg #[.bool false, .string ⟨#[]⟩, .slice none 0 0]) 3 48 Tryz.underlying25 hi hz0 hz1 hz2 rfl (by decide) (.slice va L.length vc) L.length (KL.flat L) rfl (K8.out.1.1.alloc _) ⟨w8.heap.size, 0, none⟩ 1 1 [.bool true, .string u1.nm, .slice q1 u1.args.length c1'] rfl rfl (newsK _ _ _ _ _) (one_L _ _ _ _ _) (by decide) A1 A2 A3 (w8.heap.size + 1) (by simp) ?_; intro g cap w9 hown hgrow hat hlt9; have KD := Lib.hid (KP.app (nt := true) (l3 := l3) (s := s) K8.out hr (by omega) S8.out NU.out (by omega) (fun k hk => (hvl.out k hk).2) hown hgrow hat D8.out); have TT := UniD.Has.grown (K8.out.2.1.alloc (.cells #[.bool true, .string u1.nm, .slice q1 u1.args.length c1'] 47)) hgrow (fun e => by have := (hvl.out _ e).1; omega); clear hown hgrow hat; obtain ⟨t1, t2, t3, t4, t5, t6, t7⟩ := UnpP.has3 TT; clear TT)
                | (go_simp; go_at_call 96; refine (T7.out _ (by first | exact Below.refl _ _ | exact (Below.refl _ _).drew | exact below_drewN (Below.refl _ _) _)).mono ?_; rintro e w8 ⟨q1, c1', rfl, s8, nu, rd8, ch8⟩; have X8 : Ch r w7 w8 := (by first | exact ch8 | exact (Ch.of (Below.refl _ _).drew).trans ch8 | exact (Ch.of (below_drewN (Below.refl _ _) _)).trans ch8); have S8 := Lib.hid (s8.weaken (ok' := fun b => w7.heap.size ≤ b ∧ b < w8.heap.size) (fun b hb => hb)); have NU := Lib.hid nu; have D8 := Lib.hid rd8; have K8 := Lib.hid (K7.out.ch hr (by omega) X8); have A3 : w2.heap.size + 1 ≤ (w8.alloc (.cells #[.bool true, .string u1.nm, .slice q1 u1.args.length c1'] 47)).heap.size := (by have := K8.out.2.1.lt; simp; omega); clear s8 nu rd8 ch8 X8; obtain ⟨z1, z2, z3, z4, z5, z6, z7⟩ := UnpP.has3 K8.out.2.1))
              all_goals
                have G9 : Hid (LR r w2.heap.size s u q d l2 w l3.length (w9.setCell ⟨w2.heap.size, 2, none⟩ (.slice (some ⟨g, 0, none⟩) (L.length + 1) cap))) := Lib.hid ⟨L ++ [((true, u1), .slice q1 u1.args.length c1')], _, l3, rfl, by have := HL2.out; have := TL.out; omega, BM.out _, by have := KD.out.1; simpa using this, KD.out.2⟩
                have HL9 : Hid (l3.length < gk) := Lib.hid (by have := HL2.out; have := TL.out; omega)
                clear KD S8 NU D8 K8 z1 z2 z3 z4 z5 z6 z7 y1 y2 y3 y4 y5 y6 y7
                go_wp2_with fail
                go_roundg (l3.length)
                case rel => exact G9
                case measure => exact HL9.out
      · have HAF : Hid (body l2 = (L.map (·.1), (signL 46 mm).2)) := Lib.hid (by rw [HA.out, body_dot hne.out hb, List.append_nil])
        rw [hb] at S4
        clear TM S46 WD
        go_wp2_with fail
        go_region_law (first
          | (go_simp; go_at_call 97; refine (S4.out _ (by first | exact Below.refl _ _ | exact (Below.refl _ _).drew | exact below_drewN (Below.refl _ _) _)).mono ?_; rintro e w4 ⟨rfl, hR4, hC4⟩; have X4 : Ch r wr w4 := (by first | exact hC4 | exact (Ch.of (Below.refl _ _).drew).trans hC4 | exact (Ch.of (below_drewN (Below.refl _ _) _)).trans hC4); have D4 := Lib.hid hR4; have K4 := Lib.hid (HK.out.ch hr (by omega) X4); clear hR4 hC4))
        all_goals
          obtain ⟨y1, y2, y3, y4, y5, y6, y7⟩ := UnpP.has3 K4.out.2.1
          obtain ⟨e1, e2, e3, e4, e5, e6, e7⟩ := UnpP.has3 K4.out.2.2.1
          obtain ⟨r1, r2, r3⟩ := UniA.three (UnmH.put3 K4.out.2.2.1 (.string u.nm) (.slice q u.args.length d) (.slice va L.length vc))
          go_wp2_with fail
          refine bodyPost_ret (v := .agg #[.string u.nm, .slice q u.args.length d, .slice va L.length vc]) (by simp [results, Tryz.results55, go_sem, r1, r2, r3]) rfl ?_
          rw [HO.out, HAF.out]
          exact fin_rule K4.out hr (by omega) HN2.out D4.out _ _ _
end RdE
end Go.Proofs.YtdkpflojdnkbnaaGreatDoor
/- gameplayerplain's reader in memory: Read. Condition: a trusted text of at most a million bytes. -/
namespace Go.Proofs.YtdkpflojdnkbnaaGreatDoor
open Go Go.RowKit
namespace RdF
open Kit LexM TermM TermI TermN TermU UniK UniD RdM RdN RdA RdB RdC RdD RdE
def rules (l : List UInt8) : List Rl := rulesL (l.length + 1) l
theorem rule_le (n l : List UInt8) : (rule n l).2.length ≤ l.length := by
  have h1 := term_le n l
  have h2 : (body (term n l).2).2.length ≤ (term n l).2.length := (body_le _ _).2
  rw [rule_eq]
  show (body (term n l).2).2.length ≤ l.length
  omega
theorem rules_fuel : ∀ (f g : Nat) (l : List UInt8), l.length + 1 ≤ f → f ≤ g → rulesL g l = rulesL f l
  | 0, _, _, h, _ => by omega
  | f + 1, g, l, h, hg => by
    obtain ⟨g, rfl⟩ : ∃ k, g = k + 1 := ⟨g - 1, by omega⟩
    rw [rulesL, rulesL]
    split
    · rfl
    · rename_i h3
      have a := word_len l
      have b := rule_le (wordL l).1 (wordL l).2
      have c : 0 < (wordL l).1.length := by
        cases hw : (wordL l).1 with
        | nil => rw [hw] at h3; simp at h3
        | cons x y => simp
      rw [rules_fuel f g _ (by omega) (by omega)]
theorem rules_stop {l : List UInt8} (h : (wordL l).1 = []) : rules l = [] := by
  unfold rules
  rw [rulesL, if_pos (by rw [h]; rfl)]
theorem rules_more {l : List UInt8} (h : (wordL l).1 ≠ []) : rules l = (rule (wordL l).1 (wordL l).2).1 :: rules (rule (wordL l).1 (wordL l).2).2 := by
  have a := word_len l
  have b := rule_le (wordL l).1 (wordL l).2
  have c : 0 < (wordL l).1.length := List.length_pos_iff.2 h
  have hw : (wordL l).1.isEmpty = false := by cases h : (wordL l).1 <;> simp_all
  unfold rules
  rw [rulesL, if_neg (by rw [hw]; decide), rules_fuel _ l.length _ (Nat.le_refl _) (by omega)]
/-- What Read leaves. -/
def RsQ (l : List Rl) (w : World) (e : Ending) (w' : World) : Prop :=
  ∃ v, e = .returned v ∧ RIn (fun b => w.heap.size ≤ b ∧ b < w'.heap.size) w' l v ∧ Below w.heap.size w w'
theorem read_rules (l : List UInt8) : read l = rules l := rfl
def FR (r : Nat) (s : ByteArray) (OL : List Rl) (w : World) (gk : Nat) (v : Value) (wr : World) : Prop :=
  ∃ (L : List (Rl × Value × Value)) (m : List UInt8), m.length = gk ∧ L.length + m.length ≤ 1000000 ∧ OL = L.map (·.1) ++ rules m ∧ OwnG KR (r + 1) wr L v ∧ Rd wr r s m ∧ Ch r w wr
theorem r_more {OL : List Rl} {L : List (Rl × Value × Value)} {m : List UInt8} (h : OL = L.map (·.1) ++ rules m) (hw : (wordL m).1 ≠ []) (v1 v2 : Value) :
    OL = (L ++ [((rule (wordL m).1 (wordL m).2).1, v1, v2)]).map (·.1) ++ rules (rule (wordL m).1 (wordL m).2).2 := by
  rw [h, rules_more hw]
  simp
set_option maxRecDepth 100000 in
set_option maxHeartbeats 6400000 in
theorem read_any (s : ByteArray) (hs0 : s.size ≤ 1000000) (hok : ∀ c ∈ s.data.toList, okB c = true) (w : World) :
    Calls Tryz.prog 26 #[.string s] w (RsQ (read s.data.toList) w) := by
  obtain ⟨i0, hi, hz0, hz1, hz2⟩ := info_parts Tryz.infoR
  unfold RsQ
  rw [read_rules]
  obtain ⟨OL, hOL⟩ : ∃ OL, OL = rules s.data.toList := ⟨_, rfl⟩
  rw [← hOL]
  have HOL := Lib.hid hOL
  clear hOL
  obtain ⟨W1, hW1⟩ : ∃ W1, W1 = w.alloc (.cells #[.string s, .int .i64 0] 82) := ⟨_, rfl⟩
  have hz1w : W1.heap.size = w.heap.size + 1 := by rw [hW1]; simp
  have B1 : Hid (Below w.heap.size w W1) := Lib.hid (by rw [hW1]; exact below_alloc _ _)
  have D1 : Rd W1 w.heap.size s s.data.toList := by rw [hW1]; exact ⟨hs0, 0, by simp, rfl, Has.new _ _ _⟩
  have hsl : s.data.toList.length ≤ 1000000 := Rd.len D1
  have L0 : Hid (FR w.heap.size s OL W1 s.data.toList.length (.slice none 0 0) W1) := Lib.hid ⟨[], _, rfl, by simpa using hsl, by simpa using HOL.out, OwnG.nil _ _, D1, Ch.refl _ _⟩
  have WD := Lib.hid (fun m w' (k : Rd w' w.heap.size s m) => word_any s m w' w.heap.size hok k)
  have RU := Lib.hid (fun n m w' (hn : n.length ≤ 1000000) (k : Rd w' w.heap.size s m) => rule_mem s hok w.heap.size n m w' hn k)
  unfold WdQ at WD
  unfold RuQ at RU
  clear D1 HOL hok
  generalize s.data.toList.length = gk0 at *
  go_enter Tryz.func26, Tryz.ntmps26
  go_upto_region 1 with fail
  go_wp2_with fail
  rw [← hW1]
  clear hW1
  go_loopg [4] gk0 (fun gk v wr => Hid (FR w.heap.size s OL W1 gk v wr))
  case atStart => exact L0
  case round =>
    clear L0
    obtain ⟨L, m, hm, hml, hA, hO, hD, hC⟩ := hrel.out
    obtain ⟨va, vc, hv⟩ := hO.form
    subst hv
    have HM := Lib.hid hm
    have HA := Lib.hid hA
    have HOW := Lib.hid hO
    have HC := Lib.hid hC
    have HML := Lib.hid hml
    have DD := Lib.hid hD
    clear hm hA hO hC hD hrel hml
    have HWL := Lib.hid (word_len m)
    go_wp2_with fail
    refine (WD.out m wr DD.out).mono ?_
    rintro e w5 ⟨rfl, hR5, hC5⟩
    have O5 := Lib.hid (HOW.out.ch hC5 (by omega))
    have C5 := Lib.hid (HC.out.trans hC5)
    have D5 := Lib.hid hR5
    clear hR5 hC5 HOW HC DD WD
    by_cases hW : (wordL m).1 = []
    · have n2 : (bs (wordL m).1).toList.isEmpty = true := by rw [bs_list, hW]; rfl
      have HF : Hid (OL = L.map (·.1)) := Lib.hid (by rw [HA.out, rules_stop hW, List.append_nil])
      clear hW
      go_wp2_with fail
      refine bodyPost_ret (v := .slice va L.length vc) (by simp [results, Tryz.results26, go_sem]) rfl ?_
      exact ⟨_, rfl, ⟨L, HF.out.symm, O5.out.row.wide fun b hb => ⟨by omega, hb.2⟩⟩, (B1.out).trans (C5.out.toBelow (Nat.le_refl _) (by omega))⟩
    · have n2 : (bs (wordL m).1).toList.isEmpty = false := by rw [bs_list]; simpa using hW
      have RM := Lib.hid (r_more HA.out hW)
      have hW0 : 0 < (wordL m).1.length := List.length_pos_iff.2 hW
      have hwl := HWL.out
      have hml := HML.out
      have hmg := HM.out
      have RL := Lib.hid (rule_le (wordL m).1 (wordL m).2)
      have R6 := Lib.hid (fun w' (g : Below w5.heap.size w5 w') => RU.out (wordL m).1 (wordL m).2 w' (by omega) (D5.out.below g))
      have HL2 : Hid ((wordL m).2.length < m.length) := Lib.hid (by omega)
      have hvl : Hid (∀ j, (Value.slice va L.length vc).ownBlock = some j → w.heap.size + 1 ≤ j ∧ j < w5.heap.size) := Lib.hid (fun j hj => O5.out.1.lt j hj)
      have hb5 : w.heap.size + 1 ≤ w5.heap.size := by have := C5.out.size; omega
      have A1 : L.length + 1 ≤ maxLen := by unfold maxLen; omega
      have A2 : (L.length + 1) * 64 ≤ 140737488355328 := by omega
      clear hwl hW0 hW HA HWL RU
      generalize hO3 : rule (wordL m).1 (wordL m).2 = o3 at *
      clear hO3
      generalize (wordL m).1 = W at *
      generalize hu : o3.1.1 = u1 at *
      generalize hbb : o3.1.2 = b1 at *
      have HX : Hid (o3.1 = (u1, b1)) := Lib.hid (by rw [← hu, ← hbb])
      rw [HX.out] at RM
      clear hu hbb HX
      generalize hl3 : o3.2 = l3 at *
      clear hl3
      go_wp2_with fail
      refine (R6.out _ (Below.refl _ _)).mono ?_
      rintro e w8 ⟨q1, c1', v1, rfl, s8, l8, nu, rd8, ch8⟩
      obtain ⟨lp, lc, hv1⟩ := l8.form
      subst hv1
      have S8 := Lib.hid s8
      have L8 := Lib.hid l8
      have NU := Lib.hid nu
      have D8 := Lib.hid rd8
      have C8 := Lib.hid (C5.out.trans ch8)
      have O8 := Lib.hid (O5.out.ch ch8 (by omega))
      have A3 : w.heap.size + 1 ≤ (w8.alloc (.cells #[.string u1.nm, .slice q1 u1.args.length c1', .slice lp b1.length lc] 27)).heap.size := by
        have := C8.out.size
        simp
        omega
      clear s8 l8 nu rd8 ch8 O5 C5 D5 R6
      go_wp2_with (at_builtin; go_must (refine wpList_append_lies _ rfl _ _ 37 rfl (w.heap.size + 1) 27 i0 (.agg #[.string ⟨#[]⟩, .slice none 0 0, .slice none 0 0]) 3 64 Tryz.underlying37 hi hz0 hz1 hz2 rfl (by decide) (.slice va L.length vc) L.length (KR.flat L) rfl (O8.out.1.alloc _) ⟨w8.heap.size, 0, none⟩ 1 1 [.string u1.nm, .slice q1 u1.args.length c1', .slice lp b1.length lc] rfl rfl (newsK _ _ _ _ _) (one_R _ _ _ _ _ _ _) (by decide) A1 A2 A3 (w8.heap.size + 1) (by simp) ?_; intro g cap w9 hown hgrow hat hlt9; have O9 := Lib.hid (OwnG.add (x := ((u1, b1), .slice q1 u1.args.length c1', .slice lp b1.length lc)) O8.out ⟨S8.out, NU.out, L8.out⟩ hb5 (fun k hk => (hvl.out k hk).2) hown hgrow hat); have D9 := Lib.hid (rd_grown D8.out (.cells #[.string u1.nm, .slice q1 u1.args.length c1', .slice lp b1.length lc] 27) hgrow (fun e => by have := (hvl.out _ e).1; omega)); have C9 := Lib.hid ((C8.out.alloc (.cells #[.string u1.nm, .slice q1 u1.args.length c1', .slice lp b1.length lc] 27)).grown hgrow (fun k hk => by have := (hvl.out k hk).1; omega)); clear hown hgrow hat))
      go_roundg (l3.length)
      case rel => exact Lib.hid ⟨_, l3, rfl, by have := HL2.out; have := RL.out; simp; omega, RM.out _ _, by simpa using O9.out, D9.out, C9.out⟩
      case measure => have := HL2.out; have := RL.out; omega
end RdF
end Go.Proofs.YtdkpflojdnkbnaaGreatDoor
