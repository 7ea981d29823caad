/- gameplayerplain's reader in memory: term. Condition: a trusted text of at most a million bytes. -/
import Derived.Test.YtgbbpliihglijaaGreatRdC
import Derived.Test.YtgbbpliihglijaaGreatGBC
import Derived.Test.YtgbbpliihglijaaGreatGAE
import Derived.Deep.RegionLaw
import Derived.Deep.LoopGhost
namespace Go.Proofs.YtgbbpliihglijaaGreat
open Go Go.RowKit
namespace RdD
open Kit LexM TermM TermI TermN TermU UniK UniD RdM RdN RdA RdB RdC
theorem Rd.far {w : World} {r : Nat} {s : ByteArray} {l : List UInt8} (h : Rd w r s l) {p : Addr} (hp : r ≠ p.block) (u : Value) : Rd (w.setCell p u) r s l := by
  obtain ⟨h0, k, h1, h2, h3⟩ := h
  exact ⟨h0, k, h1, h2, h3.far hp u⟩
theorem Rd.len {w : World} {r : Nat} {s : ByteArray} {l : List UInt8} (h : Rd w r s l) : l.length ≤ 1000000 := by
  obtain ⟨h0, k, h1, _, _⟩ := h
  omega
theorem rd_grown {w w' : World} {r : Nat} {s : ByteArray} {l : List UInt8} {row : Option Nat} (h : Rd w r s l) (o : Obj) (hg : (w.alloc o).grownBy w' row) (hn : row ≠ some r) : Rd w' r s l := by
  obtain ⟨h0, k, h1, h2, h3⟩ := h
  exact ⟨h0, k, h1, h2, UniD.Has.grown (h3.alloc _) hg hn⟩
/-- What term leaves. -/
def TmQ (r : Nat) (s : ByteArray) (o : Tm × List UInt8) (w : World) (e : Ending) (w' : World) : Prop :=
  ∃ (q : Option Addr) (d : Nat), e = .returned (.agg #[.string o.1.nm, .slice q o.1.args.length d]) ∧ SlIn (fun b => w.heap.size ≤ b ∧ b < w'.heap.size) w' o.1.args (.slice q o.1.args.length d) ∧ o.1.nm.size ≤ maxLen ∧ Rd w' r s o.2 ∧ Ch r w w'
def LA (r R : Nat) (s : ByteArray) (nb : ByteArray) (l1 : List UInt8) (w : World) (gk : Nat) (wr : World) : Prop :=
  ∃ (M : List (Tm × Value)) (v : Value) (m : List UInt8), m.length = gk ∧ m.length ≤ l1.length ∧ args l1 = (M.map (·.1) ++ (args m).1, (args m).2) ∧ Own (R + 2) wr M v ∧ Has wr (R + 1) #[.string nb, v] ∧ Has wr R #[.string ⟨#[]⟩, .slice none 0 0] ∧ Rd wr r s m ∧ Ch r w wr
theorem la_len {M : List (Tm × Value)} {l1 m : List UInt8} (h : args l1 = (M.map (·.1) ++ (args m).1, (args m).2)) (hl : l1.length ≤ 1000000) : M.length ≤ 1000001 := by
  have h1 := args_cnt (2 * l1.length + 2) l1
  have h2 : (args l1).1.length = M.length + (args m).1.length := by rw [h]; simp
  have h3 : (args l1).1.length ≤ l1.length + 1 := h1
  omega
theorem own_new {base : Nat} {w : World} {M : List (Tm × Value)} {v : Value} (h : Own base w M v) : SlIn (fun b => base ≤ b ∧ b < w.heap.size) w (M.map (·.1)) v := h.slin
theorem a_more {l1 m : List UInt8} {M : List (Tm × Value)} (h : args l1 = (M.map (·.1) ++ (args m).1, (args m).2)) (hm : m ≠ []) (hs : (signL 44 (term (wordL m).1 (wordL m).2).2).1 = true) (v1 : Value) :
    args l1 = ((M ++ [((term (wordL m).1 (wordL m).2).1, v1)]).map (·.1) ++ (args (signL 44 (term (wordL m).1 (wordL m).2).2).2).1, (args (signL 44 (term (wordL m).1 (wordL m).2).2).2).2) := by
  rw [h, args_more hm hs]
  simp
theorem a_last {l1 m : List UInt8} {M : List (Tm × Value)} (h : args l1 = (M.map (·.1) ++ (args m).1, (args m).2)) (hm : m ≠ []) (hs : (signL 44 (term (wordL m).1 (wordL m).2).2).1 = false) (v1 : Value) :
    args l1 = ((M ++ [((term (wordL m).1 (wordL m).2).1, v1)]).map (·.1), (signL 44 (term (wordL m).1 (wordL m).2).2).2) := by
  rw [h, args_last hm hs]
  simp
theorem fin_agg (nb : ByteArray) (M : List (Tm × Value)) (va : Option Addr) (n vc : Nat) (hn : n = M.length) : Ending.returned (.agg #[.string nb, .slice va n vc]) = .returned (.agg #[.string (Tm.mk nb (M.map (·.1))).nm, .slice va (Tm.mk nb (M.map (·.1))).args.length vc]) := by subst hn; simp [Tm.nm, Tm.args]
theorem fin_sl {nb : ByteArray} {M : List (Tm × Value)} {va : Option Addr} {n vc base lo : Nat} {w : World} (h : SlIn (fun b => base ≤ b ∧ b < w.heap.size) w (M.map (·.1)) (.slice va n vc)) (hn : n = M.length) (hl : lo ≤ base) : SlIn (fun b => lo ≤ b ∧ b < w.heap.size) w (Tm.mk nb (M.map (·.1))).args (.slice va (Tm.mk nb (M.map (·.1))).args.length vc) := by
  subst hn
  have := h.weaken (ok' := fun b => lo ≤ b ∧ b < w.heap.size) (fun b hb => ⟨by omega, hb.2⟩)
  simpa [Tm.args] using this
set_option maxRecDepth 100000 in
set_option maxHeartbeats 6400000 in
theorem term_mem (s : ByteArray) (hok : ∀ c ∈ s.data.toList, okB c = true) (r : Nat) (K : Nat) : ∀ (n l : List UInt8) (w : World), l.length = K → n.length ≤ 1000000 → Rd w r s l →
    Calls Tryz.prog 40 #[.pointer (some ⟨r, 0, none⟩), .string (bs n)] w (TmQ r s (term n l) w) := by
  obtain ⟨i0, hi, hz0, hz1, hz2⟩ := info_parts Tryz.info28
  induction K using Nat.strongRecOn with
  | ind K IH =>
    intro n l w hlK hn h
    have hs0 := h.1
    have hr := h.lt
    have hll := Rd.len h
    have hnb : (bs n).size ≤ maxLen := by rw [bs_size]; unfold maxLen; omega
    obtain ⟨W2, hW2⟩ : ∃ W2, W2 = (w.alloc (.cells #[.string ⟨#[]⟩, .slice none 0 0] 58)).alloc (.cells #[.string (bs n), .slice none 0 0] 58) := ⟨_, rfl⟩
    have B2 : Hid (Below w.heap.size w W2) := Lib.hid (by rw [hW2]; exact next0 (below_alloc _ _) (below_alloc _ _))
    have R2 : Hid (Has W2 w.heap.size #[.string ⟨#[]⟩, .slice none 0 0]) := Lib.hid (by rw [hW2]; exact (Has.new w _ _).alloc _)
    have T2 : Hid (Has W2 (w.heap.size + 1) #[.string (bs n), .slice none 0 0]) := Lib.hid (by rw [hW2]; exact Has.new1 w _ _ _)
    have D2 := Lib.hid (h.below B2.out)
    have C2 : Hid (Ch r w W2) := Lib.hid (Ch.of B2.out)
    have CS : Hid (Calls Tryz.prog 42 #[.pointer (some ⟨r, 0, none⟩), .int .u8 40] W2 (SgQ r s (signL 40 l) W2)) := Lib.hid (sign_any s l 40 W2 r D2.out)
    have hz2w : w.heap.size + 2 ≤ W2.heap.size := by rw [hW2]; simp
    have S41 := Lib.hid (fun m w' (k : Rd w' r s m) => show Calls Tryz.prog 42 #[.pointer (some ⟨r, 0, none⟩), .int .u8 41] w' (SgQ r s (signL 41 m) w') from sign_any s m 41 w' r k)
    have S44 := Lib.hid (fun m w' (k : Rd w' r s m) => show Calls Tryz.prog 42 #[.pointer (some ⟨r, 0, none⟩), .int .u8 44] w' (SgQ r s (signL 44 m) w') from sign_any s m 44 w' r k)
    have WD := Lib.hid (fun m w' (k : Rd w' r s m) => word_any s m w' r hok k)
    unfold SgQ at CS S41 S44
    unfold WdQ at WD
    have HNB := Lib.hid hnb
    cases hb : (signL 40 l).1
    · have HO : Hid (term n l = (.mk (bs n) [], (signL 40 l).2)) := Lib.hid (term_no hb)
      rw [hb] at CS
      unfold TmQ
      generalize term n l = O at *
      generalize (signL 40 l).2 = l1 at *
      clear h IH hb hnb
      generalize bs n = nb at *
      go_enter Tryz.func40, Tryz.ntmps40
      go_upto_region 2 with fail
      rw [← hW2]
      clear hW2
      go_wp2_with fail
      refine CS.out.mono ?_
      rintro e w3 ⟨rfl, hR, hC⟩
      have T3 := Lib.hid (hC.has T2.out (by omega))
      have R3 := Lib.hid (hC.has R2.out (by omega))
      have D3 := Lib.hid hR
      have C3 := Lib.hid (C2.out.trans hC)
      clear hR hC CS
      obtain ⟨x1, x2, x3, x4, x5⟩ := T3.out.two
      obtain ⟨y1, y2, y3, y4, y5⟩ := R3.out.two
      have r1 := R3.out.put0 (.string nb) (.slice none 0 0)
      have r2 := R3.out.put1 (.string nb) (.slice none 0 0)
      go_wp2_with fail
      refine bodyPost_ret (v := .agg #[.string nb, .slice none 0 0]) (by simp [results, Tryz.results40, go_sem, r1, r2]) rfl ?_
      rw [HO.out]
      exact ⟨none, 0, rfl, SlIn.none _ _, HNB.out, Rd.far (Rd.far D3.out (by show r ≠ w.heap.size; omega) _) (by show r ≠ w.heap.size; omega) _, (C3.out.put (Or.inr (Nat.le_refl _)) _).put (Or.inr (Nat.le_refl _)) _⟩
    · have hlt1 := sign_yes hb
      have HO : Hid (term n l = (.mk (bs n) (args (signL 40 l).2).1, (signL 41 (args (signL 40 l).2).2).2)) := Lib.hid (term_yes hb)
      rw [hb] at CS
      unfold TmQ
      have IT := Lib.hid (fun n' l' w' (hl' : l'.length + 1 ≤ l.length) (hn' : n'.length ≤ 1000000) (k : Rd w' r s l') => IH l'.length (by omega) n' l' w' rfl hn' k)
      unfold TmQ at IT
      have hl1 : (signL 40 l).2.length ≤ 1000000 := by omega
      generalize hO : term n l = O at *
      clear hO
      generalize (signL 40 l).2 = l1 at *
      clear h IH hb hnb
      generalize bs n = nb at *
      go_enter Tryz.func40, Tryz.ntmps40
      go_upto_region 2 with fail
      rw [← hW2]
      clear hW2
      go_wp2_with fail
      refine CS.out.mono ?_
      rintro e w3 ⟨rfl, hR, hC⟩
      have L0 : Hid (LA r w.heap.size s nb l1 w l1.length w3) := Lib.hid ⟨[], _, l1, rfl, Nat.le_refl _, by simp, Own.nil _ _, hC.has T2.out (by omega), hC.has R2.out (by omega), hR, C2.out.trans hC⟩
      clear hR hC CS
      go_wp2_with fail
      go_loopg [] l1.length (fun gk wr => Hid (LA r w.heap.size s nb l1 w gk wr))
      case atStart => exact L0
      case round =>
        clear L0
        obtain ⟨M, v, m, hm, hml, hA, hO, hT, hR, hD, hC⟩ := hrel.out
        obtain ⟨va, vc, rfl⟩ := hO.form
        obtain ⟨_, k, hk, hd, hH⟩ := hD
        obtain ⟨f1, f2, f3, f4, f5⟩ := hH.two
        have HM := Lib.hid hm
        have HA := Lib.hid hA
        have HOW := Lib.hid hO
        have HT := Lib.hid hT
        have HR := Lib.hid hR
        have HC := Lib.hid hC
        have HH := Lib.hid hH
        have HML := Lib.hid (la_len hA hl1)
        clear hm hA hO hT hR hC hH hrel
        have HML1 := Lib.hid hml
        clear hml
        cases m with
        | nil =>
          have hkn : k = s.size := by simpa using hk
          have c1 : decide (k < s.size) = false := by rw [hkn]; simp
          have HAF : Hid (args l1 = (M.map (·.1), [])) := Lib.hid (by rw [HA.out, args_nil, List.append_nil])
          have DD : Hid (Rd wr r s []) := Lib.hid ⟨hs0, k, hk, hd, HH.out⟩
          clear hk hd hkn IT S44 WD
          go_wp2_with fail
          go_quiet (fail)
          have OX := Lib.hid (HOW.out.below (below_drewN (Below.refl _ _) nq))
          have TX := Lib.hid (HT.out.step0 (below_drewN (Below.refl _ _) nq))
          have RX := Lib.hid (HR.out.step0 (below_drewN (Below.refl _ _) nq))
          have DX := Lib.hid (DD.out.below (below_drewN (Below.refl _ _) nq))
          have CX := Lib.hid (HC.out.below (below_drewN (Below.refl _ _) nq))
          clear f1 f2 f3 f4 f5
          have S8 := Lib.hid (S41.out [] (wr.drewN nq) DX.out)
          go_wp2_with fail
          refine S8.out.mono ?_
          rintro e w8 ⟨rfl, hR8, hC8⟩
          have T8 := Lib.hid (hC8.has TX.out (by omega))
          have R8 := Lib.hid (hC8.has RX.out (by omega))
          have O8 := Lib.hid (own_ch OX.out hC8 (by omega))
          have D8 := Lib.hid hR8
          have C8 := Lib.hid (CX.out.trans hC8)
          clear hR8 hC8 S8
          obtain ⟨x1, x2, x3, x4, x5⟩ := T8.out.two
          obtain ⟨y1, y2, y3, y4, y5⟩ := R8.out.two
          have r1 := R8.out.put0 (.string nb) (.slice va M.length vc)
          have r2 := R8.out.put1 (.string nb) (.slice va M.length vc)
          have O9 := Lib.hid ((O8.out.far (p := ⟨w.heap.size, 0, none⟩) (by show w.heap.size < w.heap.size + 2; omega) (.string nb)).far (p := ⟨w.heap.size, 1, none⟩) (by show w.heap.size < w.heap.size + 2; omega) (.slice va M.length vc))
          go_wp2_with fail
          refine bodyPost_ret (v := .agg #[.string nb, .slice va M.length vc]) (by simp [results, Tryz.results40, go_sem, r1, r2]) rfl ?_
          rw [HO.out, HAF.out]
          exact ⟨va, vc, fin_agg _ _ _ _ _ (rfl), fin_sl (own_new O9.out) (rfl) (by omega), HNB.out, Rd.far (Rd.far D8.out (by show r ≠ w.heap.size; omega) _) (by show r ≠ w.heap.size; omega) _, (C8.out.put (Or.inr (Nat.le_refl _)) _).put (Or.inr (Nat.le_refl _)) _⟩
        | cons c m =>
          obtain ⟨hks, hxb⟩ := byte_at hk hd
          clear hxb
          have c1 : decide (k < s.size) = true := by simpa using hks
          have DD : Hid (Rd wr r s (c :: m)) := Lib.hid ⟨hs0, k, hk, hd, HH.out⟩
          have hne : Hid ((c :: m) ≠ []) := Lib.hid (by simp)
          have HML2 : Hid ((c :: m).length ≤ 1000000) := Lib.hid (Rd.len DD.out)
          have HGK : Hid (gk = (c :: m).length) := Lib.hid HM.out.symm
          clear hk hd hks HM
          generalize hmm : (c :: m) = mm at *
          clear hmm
          have W9 := word_len mm
          have hm1 := HML1.out
          have hm2 := HML2.out
          go_wp2_with fail
          go_quiet (fail)
          have OX := Lib.hid (HOW.out.below (below_drewN (Below.refl _ _) nq))
          have TX := Lib.hid (HT.out.step0 (below_drewN (Below.refl _ _) nq))
          have RX := Lib.hid (HR.out.step0 (below_drewN (Below.refl _ _) nq))
          have CX := Lib.hid (HC.out.below (below_drewN (Below.refl _ _) nq))
          have WDX := Lib.hid (WD.out mm (wr.drewN nq) (DD.out.below (below_drewN (Below.refl _ _) nq)))
          clear f1 f2 f3 f4 f5 WD
          go_wp2_with fail
          refine WDX.out.mono ?_
          rintro e w5 ⟨rfl, hR5, hC5⟩
          have O5 := Lib.hid (own_ch OX.out hC5 (by omega))
          have T5 := Lib.hid (hC5.has TX.out (by omega))
          have R5 := Lib.hid (hC5.has RX.out (by omega))
          have C5 := Lib.hid (CX.out.trans hC5)
          have IT5 := Lib.hid (fun w' (g : Below w5.heap.size w5 w') => IT.out (wordL mm).1 (wordL mm).2 w' (by omega) (by omega) (hR5.below g))
          have AM := Lib.hid (fun hs v1 => a_more HA.out hne.out hs v1)
          have AL := Lib.hid (fun hs v1 => a_last HA.out hne.out hs v1)
          have TL := Lib.hid (term_le (wordL mm).1 (wordL mm).2)
          have hvl : Hid (∀ j, (Value.slice va M.length vc).ownBlock = some j → w.heap.size + 2 ≤ j ∧ j < w5.heap.size) := Lib.hid (fun j hj => O5.out.1.lt j hj)
          have HWL : Hid ((wordL mm).2.length ≤ mm.length) := Lib.hid (by omega)
          have hMl := HML.out
          have A1 : M.length + 1 ≤ maxLen := by unfold maxLen; omega
          have A2 : (M.length + 1) * 40 ≤ 140737488355328 := by omega
          have hbs : w.heap.size + 2 ≤ w5.heap.size := T5.out.lt
          clear hR5 hC5 OX TX RX CX WDX IT W9 hMl
          clear HOW HT HR HC HH DD
          obtain ⟨x1, x2, x3, x4, x5⟩ := T5.out.two
          generalize hO2 : term (wordL mm).1 (wordL mm).2 = o2 at *
          clear hO2
          generalize (wordL mm).1 = W at *
          generalize hu : o2.1 = u at *
          clear hu
          generalize hl2 : o2.2 = l2 at *
          clear hl2
          go_wp2_with fail
          go_region_law (first
            | (refine step_append_lies _ rfl _ _ 23 rfl (w.heap.size + 2) 58 i0 (.agg #[.string ⟨#[]⟩, .slice none 0 0]) 2 40 Tryz.underlying23 hi hz0 hz1 hz2 rfl (by decide) (.slice va M.length vc) M.length (flatL M) rfl (O6.out.1.alloc _) ⟨w6.heap.size, 0, none⟩ 1 1 [.string u.nm, .slice q1 u.args.length c1'] rfl rfl (news2 _ _ _ _) (one2 _ _ _ _) (by decide) A1 A2 A3 (w6.heap.size + 1) (by simp) ?_; intro g cap w7 hown hgrow hat hlt7; have O7 := Lib.hid (O6.out.add S6.out NU.out hbs (fun k hk => (hvl.out k hk).2) hown hgrow hat); have nv1 : (Value.slice va M.length vc).ownBlock ≠ some (w.heap.size + 1) := (fun e => by have := (hvl.out _ e).1; omega); have nv2 : (Value.slice va M.length vc).ownBlock ≠ some w.heap.size := (fun e => by have := (hvl.out _ e).1; omega); have T7 := Lib.hid (UniD.Has.grown (T6.out.alloc _) hgrow nv1); have R7 := Lib.hid (UniD.Has.grown (R6.out.alloc _) hgrow nv2); have C7 := Lib.hid ((C6.out.alloc (.cells #[.string u.nm, .slice q1 u.args.length c1'] 58)).grown hgrow (fun k hk => by have := (hvl.out k hk).1; omega)); have D7 := Lib.hid (rd_grown D6.out (.cells #[.string u.nm, .slice q1 u.args.length c1'] 58) hgrow (fun e => by have := (hvl.out _ e).1; omega)); clear hown hgrow hat; obtain ⟨u1, u2, u3, u4, u5⟩ := T7.out.two)
            | (go_simp; go_at_call 40; refine (IT5.out _ (by first | exact Below.refl _ _ | exact (Below.refl _ _).drew | exact below_drewN (Below.refl _ _) _)).mono ?_; rintro e w6 ⟨q1, c1', rfl, s6, nu, rd6, ch6⟩; have X6 : Ch r w5 w6 := (by first | exact ch6 | exact (Ch.of (Below.refl _ _).drew).trans ch6 | exact (Ch.of (below_drewN (Below.refl _ _) _)).trans ch6); have S6 := Lib.hid (s6.weaken (ok' := fun b => w5.heap.size ≤ b ∧ b < w6.heap.size) (fun b hb => hb)); have NU := Lib.hid nu; have D6 := Lib.hid rd6; have C6 := Lib.hid (C5.out.trans X6); have O6 := Lib.hid (own_ch O5.out X6 (by omega)); have T6 := Lib.hid (X6.has T5.out (by omega)); have R6 := Lib.hid (X6.has R5.out (by omega)); have A3 : w.heap.size + 2 ≤ (w6.alloc (.cells #[.string u.nm, .slice q1 u.args.length c1'] 58)).heap.size := (by have := T6.out.lt; simp; omega); clear s6 nu rd6 ch6 X6; obtain ⟨z1, z2, z3, z4, z5⟩ := T6.out.two))
          all_goals
            have T8 := Lib.hid (T7.out.set 1 (.slice (some ⟨g, 0, none⟩) (M.length + 1) cap))
            have R8 := Lib.hid (R7.out.far (p := ⟨w.heap.size + 1, 1, none⟩) (by show w.heap.size ≠ w.heap.size + 1; omega) (.slice (some ⟨g, 0, none⟩) (M.length + 1) cap))
            have D8 := Lib.hid (Rd.far D7.out (p := ⟨w.heap.size + 1, 1, none⟩) (by show r ≠ w.heap.size + 1; omega) (.slice (some ⟨g, 0, none⟩) (M.length + 1) cap))
            have C8 := Lib.hid (C7.out.put (p := ⟨w.heap.size + 1, 1, none⟩) (Or.inr (by show w.heap.size ≤ w.heap.size + 1; omega)) (.slice (some ⟨g, 0, none⟩) (M.length + 1) cap))
            have O8 := Lib.hid (O7.out.far (p := ⟨w.heap.size + 1, 1, none⟩) (by show w.heap.size + 1 < w.heap.size + 2; omega) (.slice (some ⟨g, 0, none⟩) (M.length + 1) cap))
            have S9 := Lib.hid (S44.out l2 _ D8.out)
            clear T7 R7 C7 D7 O7 S44 IT5 nv1 nv2 hvl
            cases hz : (signL 44 l2).1
            · have HAF := Lib.hid (AL.out hz (.slice q1 u.args.length c1'))
              rw [hz] at S9
              clear AM AL hz
              go_wp2_with fail
              refine S9.out.mono ?_
              rintro e w9 ⟨rfl, hR9, hC9⟩
              have T9 := Lib.hid (hC9.has T8.out (by omega))
              have R9 := Lib.hid (hC9.has R8.out (by omega))
              have O9a := Lib.hid (own_ch O8.out hC9 (by omega))
              have D9 := Lib.hid hR9
              have C9 := Lib.hid (C8.out.trans hC9)
              clear hR9 hC9 S9 T8 R8 O8 D8 C8 u1 u2 u3 u4 u5 z1 z2 z3 z4 z5 x1 x2 x3 x4 x5
              go_wp2_with fail
              have S8 := Lib.hid (S41.out (signL 44 l2).2 w9 D9.out)
              refine S8.out.mono ?_
              rintro e w8 ⟨rfl, hR8, hC8⟩
              have T8 := Lib.hid (hC8.has T9.out (by omega))
              have R8 := Lib.hid (hC8.has R9.out (by omega))
              have O8 := Lib.hid (own_ch O9a.out hC8 (by omega))
              have D8 := Lib.hid hR8
              have C8 := Lib.hid (C9.out.trans hC8)
              clear hR8 hC8 S8
              obtain ⟨x1, x2, x3, x4, x5⟩ := T8.out.two
              obtain ⟨y1, y2, y3, y4, y5⟩ := R8.out.two
              have r1 := R8.out.put0 (.string nb) (.slice (some ⟨g, 0, none⟩) (M.length + 1) cap)
              have r2 := R8.out.put1 (.string nb) (.slice (some ⟨g, 0, none⟩) (M.length + 1) cap)
              have O9 := Lib.hid ((O8.out.far (p := ⟨w.heap.size, 0, none⟩) (by show w.heap.size < w.heap.size + 2; omega) (.string nb)).far (p := ⟨w.heap.size, 1, none⟩) (by show w.heap.size < w.heap.size + 2; omega) (.slice (some ⟨g, 0, none⟩) (M.length + 1) cap))
              go_wp2_with fail
              refine bodyPost_ret (v := .agg #[.string nb, .slice (some ⟨g, 0, none⟩) (M.length + 1) cap]) (by simp [results, Tryz.results40, go_sem, r1, r2]) rfl ?_
              rw [HO.out, HAF.out]
              exact ⟨(some ⟨g, 0, none⟩), cap, fin_agg _ _ _ _ _ (by simp), fin_sl (own_new O9.out) (by simp) (by omega), HNB.out, Rd.far (Rd.far D8.out (by show r ≠ w.heap.size; omega) _) (by show r ≠ w.heap.size; omega) _, (C8.out.put (Or.inr (Nat.le_refl _)) _).put (Or.inr (Nat.le_refl _)) _⟩
            · have HAM := Lib.hid (AM.out hz (.slice q1 u.args.length c1'))
              have hl3 := sign_yes hz
              rw [hz] at S9
              clear AM AL hz
              go_wp2_with fail
              refine S9.out.mono ?_
              rintro e w9 ⟨rfl, hR9, hC9⟩
              have G9 : Hid (LA r w.heap.size s nb l1 w (signL 44 l2).2.length w9) := Lib.hid ⟨M ++ [(u, .slice q1 u.args.length c1')], (.slice (some ⟨g, 0, none⟩) (M.length + 1) cap), (signL 44 l2).2, rfl, by have := HWL.out; have := TL.out; omega, HAM.out, own_ch O8.out hC9 (by omega), hC9.has T8.out (by omega), hC9.has R8.out (by omega), hR9, C8.out.trans hC9⟩
              have HL9 : Hid ((signL 44 l2).2.length < gk) := Lib.hid (by have := HWL.out; have := TL.out; have := HGK.out; omega)
              clear hR9 hC9 S9 T8 R8 O8 D8 C8 u1 u2 u3 u4 u5 z1 z2 z3 z4 z5 x1 x2 x3 x4 x5
              go_wp2_with fail
              go_roundg ((signL 44 l2).2.length)
              case rel => exact G9
              case measure => exact HL9.out
end RdD
end Go.Proofs.YtgbbpliihglijaaGreat
