/- Texts laid together: UnrK; UnrL; NolF. Their own heads stand before each. -/
import Derived.Test.YtikkaiiinkeobaaGreatDoorGAF
import Derived.Test.YtikkaiiinkeobaaGreatDoorGAY
import Derived.Test.YtikkaiiinkeobaaGreatDoorGAW
import Derived.Test.YtikkaiiinkeobaaGreatDoorGBB
import Derived.Test.YtikkaiiinkeobaaGreatDoorGAL
import Derived.Lib.ItoaLen
import Derived.Test.YtikkaiiinkeobaaGreatDoorGAN
import Derived.Test.YtikkaiiinkeobaaGreatDoorGAG
import Derived.Test.YtikkaiiinkeobaaGreatDoorGCF
/- Renaming as plain data: what the code's map and the reference's bindings do is the same. No conditions. -/
namespace Go.Proofs.YtikkaiiinkeobaaGreatDoor
open Go
namespace UnrK
open LexM TermM TermE UniM UniD UniE UnmA UnmH UnrF
/-- The bindings of the first k variables to new names. -/
def bnK (f : Nat → ByteArray) (vs : List ByteArray) : Nat → List Bd
  | 0 => []
  | k + 1 => match vs[k]? with
    | some v => bnK f vs k ++ [(v, .mk (f k) [])]
    | none => bnK f vs k
theorem bn_next {f : Nat → ByteArray} {vs : List ByteArray} {k : Nat} {v : ByteArray} (h : vs[k]? = some v) : bnK f vs (k + 1) = bnK f vs k ++ [(v, .mk (f k) [])] := by
  simp [bnK, h]
theorem bn_len {f : Nat → ByteArray} {vs : List ByteArray} : ∀ k, k ≤ vs.length → (bnK f vs k).length = k
  | 0, _ => rfl
  | k + 1, h => by
    have hv : vs[k]? = some (vs[k]'(by omega)) := by simp
    rw [bn_next hv, List.length_append, bn_len k (by omega)]
    rfl
theorem bn_mem {f : Nat → ByteArray} {vs : List ByteArray} : ∀ {k : Nat} {b : Bd}, b ∈ bnK f vs k → ∃ j, j < k ∧ vs[j]? = some b.1 ∧ b.2 = .mk (f j) []
  | 0, b, h => by simp [bnK] at h
  | k + 1, b, h => by
    unfold bnK at h
    cases hv : vs[k]? with
    | none =>
      rw [hv] at h
      obtain ⟨j, h1, h2⟩ := bn_mem h
      exact ⟨j, by omega, h2⟩
    | some v =>
      rw [hv] at h
      rcases List.mem_append.1 h with h | h
      · obtain ⟨j, h1, h2⟩ := bn_mem h
        exact ⟨j, by omega, h2⟩
      · obtain rfl := List.mem_singleton.1 h
        exact ⟨k, by omega, hv, rfl⟩
theorem add_nodup {M : List ByteArray} {s : ByteArray} (h : M.Nodup) : (addV M s).Nodup := by
  unfold addV
  split
  · rename_i hs
    rw [List.nodup_append]
    refine ⟨h, List.nodup_cons.2 ⟨by simp, List.nodup_nil⟩, fun a ha b hb e => ?_⟩
    obtain rfl := List.mem_singleton.1 hb
    subst e
    have := has_mem ha
    rw [hs.2] at this
    cases this
  · exact h
theorem fold_nodup : ∀ (ys M : List ByteArray), M.Nodup → (ys.foldl addV M).Nodup
  | [], _, h => h
  | a :: r, M, h => fold_nodup r (addV M a) (add_nodup h)
theorem vars_nodup (xs : List ByteArray) : (varsOf xs).Nodup := fold_nodup xs [] List.nodup_nil
theorem nodup_at {vs : List ByteArray} (h : vs.Nodup) {j k : Nat} {v : ByteArray} (hj : vs[j]? = some v) (hk : vs[k]? = some v) (hlt : j < k) : False := by
  obtain ⟨a1, a2⟩ := List.getElem?_eq_some_iff.1 hj
  obtain ⟨b1, b2⟩ := List.getElem?_eq_some_iff.1 hk
  exact List.pairwise_iff_getElem.1 h j k a1 b1 hlt (a2.trans b2.symm)
theorem look_app (L : List Bd) (v n : ByteArray) (t : Tm) : lookS (L ++ [(v, t)]) n = match lookS L n with
    | some u => some u
    | none => if eqB v n then some t else none := by
  unfold lookS
  rw [List.find?_append]
  cases h : L.find? (fun b => eqB b.1 n) with
  | some u => simp
  | none =>
    by_cases e : eqB v n = true
    · simp [e]
    · simp [e]
theorem first_bad (p : Nat → Bool) : ∀ m, (∀ k, k < m → p k = true) ∨ ∃ k0, k0 < m ∧ (∀ k, k < k0 → p k = true) ∧ p k0 = false
  | 0 => Or.inl fun k h => absurd h (Nat.not_lt_zero _)
  | m + 1 => by
    rcases first_bad p m with h | ⟨k0, h1, h2, h3⟩
    · cases hp : p m
      · exact Or.inr ⟨m, by omega, h, hp⟩
      · refine Or.inl fun k hk => ?_
        by_cases e : k = m
        · rw [e]; exact hp
        · exact h k (by omega)
    · exact Or.inr ⟨k0, by omega, h2, h3⟩
end UnrK
end Go.Proofs.YtikkaiiinkeobaaGreatDoor
/- The reference's Rename of any rule. Conditions: at most a thousand literals, a million parts; a prefix of at most a thousand bytes. Made by genrenref.py. -/
namespace Go.Proofs.YtikkaiiinkeobaaGreatDoor
open Go Go.RowKit
namespace UnrL
open LexM TermM TermI Kit TermN TermU TermL TermE TermF UniK UniM UniA UniC UniD UniE UniG UniR UniJ UnmA UnmH LigG LigU LigY UnqA UnqB UnrA UnrF UnrG UnrK
def newName (pre : ByteArray) (k : Nat) : ByteArray := pre ++ ⟨(Lib.decDigits (k + 1)).toArray⟩
theorem itoa_pos (k : Nat) : Lib.itoa ((k : Int) + 1) = Lib.decDigits (k + 1) := Lib.itoa_nonneg (k + 1)
/-- What Rename leaves where all new names are variables. -/
def RnX (u : Tm) (l : List Lt) (w : World) (e : Ending) (w' : World) : Prop :=
  ∃ (q : Option Addr) (d : Nat) (v : Value), e = .returned (.tuple #[.agg #[.string u.nm, .slice q u.args.length d, v], .bool true]) ∧ SlIn (fun b => w.heap.size ≤ b ∧ b < w'.heap.size) w' u.args (.slice q u.args.length d) ∧ LIn (fun b => w.heap.size ≤ b ∧ b < w'.heap.size) w' l v ∧ u.nm.size ≤ maxLen ∧ Below w.heap.size w w'
theorem size_at {h : Tm} {l : List Lt} {t : Tm} (ht : t = h ∨ ∃ x ∈ l, x.2 = t) (hz : sizeL (atsL h l) ≤ 1000000) : sizeT t ≤ 1000000 := by
  have : t ∈ atsL h l := by
    unfold atsL
    rcases ht with rfl | ⟨x, hx, rfl⟩
    · exact List.mem_cons_self
    · exact List.mem_cons_of_mem _ (List.mem_map.2 ⟨x, hx, rfl⟩)
  have := size_mem this
  omega
theorem vars_var {xs : List ByteArray} : ∀ v ∈ varsOf xs, varB v = true := by
  have gen : ∀ (xs M : List ByteArray), (∀ x ∈ M, varB x = true) → ∀ x ∈ xs.foldl addV M, varB x = true := by
    intro xs
    induction xs with
    | nil => intro M hM; exact hM
    | cons a r ih =>
      intro M hM
      refine ih (addV M a) ?_
      intro x h
      unfold addV at h
      split at h
      · next hc =>
        rcases List.mem_append.1 h with h | h
        · exact hM x h
        · obtain rfl := List.mem_singleton.1 h; exact hc.1
      · exact hM x h
  exact gen xs [] (fun x h => by simp at h)
theorem var_ok {v : ByteArray} (h : varB v = true) : v.size ≤ 16 := by
  unfold varB varL at h
  simp only [Bool.and_eq_true, decide_eq_true_eq] at h
  exact h.1.1
theorem new_size (pre : ByteArray) (k : Nat) (hp : pre.size ≤ 1000) (hk : k ≤ 1000000) : (newName pre k).size ≤ 2000 := by
  have h9 := Lib.itoa_length_le ((k : Int) + 1) (by omega) (by omega)
  rw [itoa_pos k] at h9
  have h8 : (⟨(Lib.decDigits (k + 1)).toArray⟩ : ByteArray).size = (Lib.decDigits (k + 1)).length := by simp [ByteArray.size]
  unfold newName
  rw [ByteArray.size_append, h8]
  omega
theorem vars_size {xs : List ByteArray} {v : ByteArray} (h : v ∈ varsOf xs) : v.size ≤ 16 := var_ok (vars_var v h)
theorem ownq_below {base : Nat} {w w' : World} {L : List (Bd × Value)} {v : Value} (h : OwnQ base w L v) (g : Below w.heap.size w w') (hb : base ≤ w.heap.size) : OwnQ base w' L v :=
  ⟨own_below h.1 g, fun x hx => KB.keep (h.2 x hx) fun b o hlt => g.cell (p := ⟨b, o, none⟩) (Nat.lt_of_lt_of_le hlt hb)⟩
set_option maxRecDepth 100000 in
set_option maxHeartbeats 3200000 in
theorem rrename_yes (h : Tm) (l : List Lt) (pre : ByteArray) (w : World) (hv lv : Value) (hs : SlIn (· < w.heap.size) w h.args hv) (hl0 : LIn (· < w.heap.size) w l lv) (hn : h.nm.size ≤ maxLen) (hll : l.length ≤ 1000) (hz : sizeL (atsL h l) ≤ 1000000) (hp : pre.size ≤ 1000)
    (hl : (varsOf (leavesL (atsL h l))).length ≤ 1000000) (hN : ∀ k, k < (varsOf (leavesL (atsL h l))).length → varB (newName pre k) = true) :
    Calls Tryz.prog 25 #[.agg #[.string h.nm, hv, lv], .string pre] w ((RnX (appT (bnK (newName pre) (varsOf (leavesL (atsL h l))) (varsOf (leavesL (atsL h l))).length) h) (atomsL (appT (bnK (newName pre) (varsOf (leavesL (atsL h l))) (varsOf (leavesL (atsL h l))).length)) l) w)) := by
  obtain ⟨i0, hi, hz0, hz1, hz2⟩ := info_parts infoB
  obtain ⟨p, c, rfl⟩ := hs.form
  obtain ⟨lp, lc, rfl⟩ := hl0.form
  obtain ⟨W2, hW2⟩ : ∃ W2, W2 = (w.alloc (.cells #[.string h.nm, .slice p h.args.length c, .slice lp l.length lc] 27)).alloc (.cells #[.string ⟨#[]⟩, .slice none 0 0, .slice none 0 0] 27) := ⟨_, rfl⟩
  have B2 : Hid (Below w.heap.size w W2) := Lib.hid (by rw [hW2]; exact next0 (below_alloc _ _) (below_alloc _ _))
  have H2 : Hid (Has W2 w.heap.size #[.string h.nm, .slice p h.args.length c, .slice lp l.length lc]) := Lib.hid (by rw [hW2]; exact (Has.new w _ _).alloc _)
  have E2 : Hid (Has W2 (w.heap.size + 1) #[.string ⟨#[]⟩, .slice none 0 0, .slice none 0 0]) := Lib.hid (by rw [hW2]; exact Has.new1 w _ _ _)
  have hs2 : w.heap.size + 2 ≤ W2.heap.size := by rw [hW2]; simp
  have LW := Lib.hid (fun w' (k : Below w.heap.size w w') => (hl0.keep (w' := w') fun b o hb => k.cell (p := ⟨b, o, none⟩) hb).wide (ok' := (· < w'.heap.size)) fun b hb => Nat.lt_of_lt_of_le hb k.size)
  have SW := Lib.hid (fun w' (k : Below w.heap.size w w') => (hs.deep k (Nat.le_refl _)).weaken (ok' := (· < w'.heap.size)) fun b hb => Nat.lt_of_lt_of_le hb k.size)
  have CV := Lib.hid (rvars_rule h l W2 _ _ (SW.out W2 B2.out) (LW.out W2 B2.out) hn hll hz)
  have CB := Lib.hid (fun s (hF : ∀ b ∈ s, b.2.args = []) (hV : ∀ b ∈ s, varB b.1 = true) w' sv (k : Below w.heap.size w w') (hss : SIn (· < w'.heap.size) w' s sv) => UnrJ.rar_any0 s hF hV h l w' sv _ _ hss (SW.out w' k) (LW.out w' k) hn hll (size_at (Or.inl rfl) hz) (fun x hx => size_at (Or.inr ⟨x, hx, rfl⟩) hz))
  unfold Vrs at CV
  have VV := Lib.hid (fun v (h9 : v ∈ varsOf (leavesL (atsL h l))) => vars_var v h9)
  have VS := Lib.hid (fun v (h9 : v ∈ varsOf (leavesL (atsL h l))) => vars_size h9)
  clear hs hn hz hl0 LW SW
  generalize varsOf (leavesL (atsL h l)) = vs at *
  generalize hm : vs.length = m at *
  have HM := Lib.hid hm
  have BN := Lib.hid (fun k v (h : vs[k]? = some v) => bn_next (f := newName pre) h)
  have BL := Lib.hid (fun k (h : k ≤ m) => bn_len (f := newName pre) (vs := vs) k (by rw [hm]; exact h))
  have BF : Hid (∀ b ∈ bnK (newName pre) vs m, b.2.args = []) := Lib.hid (fun b hb => by obtain ⟨j, _, _, h3⟩ := bn_mem hb; rw [h3]; rfl)
  have BV : Hid (∀ b ∈ bnK (newName pre) vs m, varB b.1 = true) := Lib.hid (fun b hb => by obtain ⟨j, _, h2, _⟩ := bn_mem hb; exact VV.out _ (List.mem_of_getElem? h2))
  have NS := Lib.hid (fun k (hk : k ≤ m) => new_size pre k hp (by omega))
  have VN := Lib.hid hN
  clear hm hN
  have hmb : m ≤ 1000000 := hl
  have CB1 := Lib.hid (CB.out (bnK (newName pre) vs m) BF.out BV.out)
  clear CB BF BV
  have B00 : Hid (([] : List (Bd × Value)).map (·.1) = bnK (newName pre) vs 0) := Lib.hid rfl
  generalize hBN : bnK (newName pre) vs = BNL at *
  clear hBN
  generalize appT (BNL m) h = u at *
  generalize atomsL (appT (BNL m)) l = ul at *
  unfold RuX at CB1
  generalize l.length = ln at *
  generalize h.nm = hnm at *
  generalize h.args.length = hl9 at *
  have k1 := H2.out.cell 0
  obtain ⟨y1, y2, y3⟩ := UniA.three H2.out
  go_enter Tryz.func25, Tryz.ntmps25
  go_upto_region 1 with fail
  rw [← hW2]
  clear hW2 k1
  go_wp2_with fail
  refine CV.out.mono ?_
  rintro e w4 ⟨v4, base4, rfl, h1, h2, h3⟩
  obtain ⟨a9, c9, rfl⟩ := row_form h1
  have O4 := Lib.hid h1
  have D4 := Lib.hid (next0 B2.out h3)
  have H4 := Lib.hid (H2.out.step0 h3)
  have E4 := Lib.hid (E2.out.step0 h3)
  have hs4 : W2.heap.size ≤ w4.heap.size := h3.size
  clear h1 h3 y1 y2 y3 CV
  go_wp2_with fail
  go_loopw [7, 8] (fun u7 i wr => ∃ (k : Nat) (L : List (Bd × Value)), k ≤ m ∧ i = .int .i64 k ∧ Hid (L.map (·.1) = BNL k) ∧ Hid (OwnQ w4.heap.size wr L u7) ∧ Hid (Below w4.heap.size w4 wr)) (fun _ i _ => m - (intOf i).toNat)
  case atStart => exact ⟨0, [], Nat.zero_le _, rfl, B00, Lib.hid (OwnQ.nil _ _), Lib.hid (Below.refl _ _)⟩
  case round =>
    obtain ⟨k, L, hk, rfl, hP, hO, hD⟩ := hrel
    obtain ⟨va, vc, rfl⟩ := hO.out.form
    by_cases hlt : k < m
    · obtain ⟨v0, hv0⟩ : ∃ v0, vs[k]? = some v0 := ⟨vs[k]'(by rw [HM.out]; omega), by simp⟩
      have OR : wr.ownsRow base4 9 1 (.slice a9 m c9) vs.length (strs vs) := by
        rw [HM.out]
        exact own_below O4.out hD.out
      obtain ⟨g, cap, hav, hcell, hgb, hgl⟩ := row_str OR hv0
      injection hav with hav1 hav3 hav2
      subst hav1 hav2
      clear hav3
      have CI : Hid (∀ w', Calls Tryz.prog 52 #[.int .i64 ((k : Int) + 1)] w' fun e w'' => e = .returned (.string ⟨(Lib.decDigits (k + 1)).toArray⟩) ∧ Below w'.heap.size w' w'') := Lib.hid (fun w' => UnrE.decimal_any (k + 1) (by omega) w')
      have hvn : (newName pre k).size ≤ 2000 := NS.out k (by omega)
      have KV := Lib.hid (fun w' => TermC.rvar_any (newName pre k) w' (by omega))
      have KB9 : Hid (varL (newName pre k).data.toList = true) := Lib.hid (VN.out k hlt)
      rw [KB9.out] at KV
      have hvl9 : v0.size ≤ maxLen := by have := VS.out v0 (List.mem_of_getElem? hv0); unfold maxLen; omega
      have hnl9 : (newName pre k).size ≤ maxLen := by unfold maxLen; omega
      have HNX := Lib.hid (BN.out k v0 hv0)
      have XI := Lib.hid (fun w' => show KB.inn (· < w4.heap.size) w' ((v0, .mk (newName pre k) []), .slice none 0 0) from ⟨SlIn.none _ _, hnl9, hvl9⟩)
      have hLn : L.length = k := by
        have := congrArg List.length hP.out
        rw [List.length_map, BL.out k (by omega)] at this
        exact this
      have A1 := UniR.bd3 (n := L.length) (by omega)
      have A2 := UniR.bd4 (n := L.length) (by omega)
      clear hv0 OR KB9 hLn
      have HNN : Hid (newName pre k = pre ++ ⟨(Lib.decDigits (k + 1)).toArray⟩) := Lib.hid rfl
      rw [HNN.out, ByteArray.size_append] at hvn
      rw [HNN.out] at KV
      generalize (⟨(Lib.decDigits (k + 1)).toArray⟩ : ByteArray) = dg at *
      have hv1 : pre.size ≤ 2000 := by omega
      have hv2 : dg.size ≤ 2000 := by omega
      have hw4r : w4.heap.size ≤ wr.heap.size := hD.out.size
      go_wp2_with fail
      refine (CI.out _).mono ?_
      rintro e w5 ⟨rfl, k5⟩
      have hO5 := Lib.hid (ownq_below hO.out k5 hw4r)
      have hD5 := Lib.hid (next0 hD.out k5)
      have c7 := (k5.cell (p := ⟨g, k, none⟩) hgl).trans hcell
      have hw5 : w4.heap.size ≤ w5.heap.size := hD5.out.size
      clear k5 hO hD hcell hgl
      go_wp2_with fail
      refine (KV.out _).mono ?_
      rintro e w5' ⟨rfl, rfl⟩
      have A4 : w4.heap.size ≤ (w5.alloc (.cells #[.string v0, .string (pre ++ dg), .slice none 0 0] 69)).heap.size := by simp; omega
      go_wp2_with (at_builtin; refine wpList_append_lies _ rfl _ _ 59 rfl w4.heap.size 69 i0 zB 3 56 Tryz.underlying59 hi hz0 hz1 hz2 rfl (by decide) (.slice va L.length vc) L.length (KB.flat L) rfl (hO5.out.1.alloc _) ⟨w5.heap.size, 0, none⟩ 1 1 [.string v0, .string (pre ++ dg), .slice none 0 0] rfl rfl (newsK _ _ _ _ _) (one_B _ _ _ _ _) (by decide) A1 A2 A4 (w5.heap.size + 1) (by simp) ?_; intro g6 cap6 w6 hown hgrow hat hlt6)
      rw [← HNN.out] at hown
      obtain ⟨O6, B6⟩ := OwnQ.add (x := ((v0, .mk (newName pre k) []), .slice none 0 0)) hO5.out hw5 (XI.out w5) hown hgrow
      have O6 := Lib.hid O6
      have D6 : Hid (Below w4.heap.size w4 w6) := Lib.hid (hD5.out.trans B6)
      have P6 : Hid ((L ++ [((v0, Tm.mk (newName pre k) []), Value.slice none 0 0)]).map (·.1) = BNL (k + 1)) := Lib.hid (by rw [List.map_append, hP.out, HNX.out]; rfl)
      clear hown hgrow hat B6
      go_wp2_with fail
      go_roundw
      case rel => (repeat (refine Exists.intro _ ?_)); first | exact ⟨k + 1, _, by omega, by go_num, P6, O6, D6⟩ | (refine ⟨?_, rfl⟩; exact ⟨k + 1, _, by omega, by go_num, P6, O6, D6⟩)
      case measure => simp [intOf]; omega
    · obtain rfl : k = m := by omega
      have SI := Lib.hid (hO.out.sin hD.out.size)
      rw [hP.out] at SI
      have D5 := Lib.hid (next0 D4.out hD.out)
      have CB2 := Lib.hid (CB1.out wr _ D5.out SI.out)
      have H5 := Lib.hid (H4.out.step0 hD.out)
      have E5 := Lib.hid (E4.out.step0 hD.out)
      obtain ⟨y1, y2, y3⟩ := UniA.three H5.out
      have hsr : w4.heap.size ≤ wr.heap.size := hD.out.size
      clear CB1 hP hO SI
      go_wp2_with fail
      (with_reducible refine CB2.out.mono ?_)
      rintro e w7 ⟨q, d, v7, rfl, hS, hL, hnu, k7⟩
      obtain ⟨v7p, v7c, rfl⟩ := hL.form
      have D7 := Lib.hid (next0 D5.out k7)
      have E7 := Lib.hid (E5.out.step0 k7)
      have S7 := Lib.hid (hS.weaken (ok' := fun b => wr.heap.size ≤ b ∧ b < w7.heap.size) (fun b hb => hb.resolve_left id))
      have L7 := Lib.hid (hL.wide (ok' := fun b => wr.heap.size ≤ b ∧ b < w7.heap.size) (fun b hb => hb.resolve_left id))
      have NU := Lib.hid hnu
      clear y1 y2 y3 hS hL hnu k7 CB2
      generalize hlz : ul.length = lz at *
      have HLZ := Lib.hid hlz
      clear hlz
      obtain ⟨z1, z2, z3⟩ := UniA.three E7.out
      have f1 := E7.out.free 0
      have f2 := E7.out.free 1
      have f3 := E7.out.free 2
      have R8 := put3 E7.out (.string u.nm) (.slice q u.args.length d) (.slice v7p lz v7c)
      obtain ⟨r1, r2, r3⟩ := UniA.three R8
      have D8 := Lib.hid (((D7.out.setCell (p := ⟨w.heap.size + 1, 0, none⟩) (by simp) (.string u.nm)).setCell (p := ⟨w.heap.size + 1, 1, none⟩) (by simp) (.slice q u.args.length d)).setCell (p := ⟨w.heap.size + 1, 2, none⟩) (by simp) (.slice v7p lz v7c))
      have FR : ∀ b o, wr.heap.size ≤ b ∧ b < w7.heap.size → (((w7.setCell ⟨w.heap.size + 1, 0, none⟩ (.string u.nm)).setCell ⟨w.heap.size + 1, 1, none⟩ (.slice q u.args.length d)).setCell ⟨w.heap.size + 1, 2, none⟩ (.slice v7p lz v7c)).cell? ⟨b, o, none⟩ = w7.cell? ⟨b, o, none⟩ := fun b o hb => by
        rw [cell_far (by show b ≠ w.heap.size + 1; omega), cell_far (by show b ≠ w.heap.size + 1; omega), cell_far (by show b ≠ w.heap.size + 1; omega)]
      have S8 := Lib.hid (S7.out.frame FR)
      have L8 := Lib.hid (L7.out.keep FR)
      clear R8 E7 D7 S7 L7 FR
      go_wp2_with fail
      refine bodyPost_ret (v := .tuple #[.agg #[.string u.nm, .slice q u.args.length d, .slice v7p lz v7c], .bool true]) (by simp [results, Tryz.results25, go_sem, r1, r2, r3]) rfl ?_
      unfold RnX
      exact ⟨q, d, _, rfl, S8.out.weaken (fun b hb => ⟨by omega, by simpa [World.setCell] using hb.2⟩), L8.out.wide (fun b hb => ⟨by omega, by simpa [World.setCell] using hb.2⟩), NU.out, D8.out⟩
end UnrL
end Go.Proofs.YtikkaiiinkeobaaGreatDoor
/- Plain facts for NormalRenamed. No conditions. -/
namespace Go.Proofs.YtikkaiiinkeobaaGreatDoor
open Go Go.RowKit
namespace NolF
open Kit LexM TermM TermI TermE UniK UniM UniD UniE UnqA UnrA UnrK UnrL NorM NorC NorQ NorR NorS NosQ NosF NosV NosI NolA
theorem vars_iff {xs : List ByteArray} {n : ByteArray} : n ∈ varsOf xs ↔ varB n = true ∧ n ∈ xs := by
  have gen : ∀ (xs M : List ByteArray), n ∈ xs.foldl addV M ↔ n ∈ M ∨ (varB n = true ∧ n ∈ xs) := by
    intro xs
    induction xs with
    | nil => intro M; simp
    | cons a r ih =>
      intro M
      rw [List.foldl_cons, ih]
      have hA : n ∈ addV M a ↔ n ∈ M ∨ (varB n = true ∧ n = a) := by
        unfold addV
        split
        · rename_i h
          rw [List.mem_append, List.mem_singleton]
          exact ⟨fun k => k.imp id fun e => ⟨by rw [e]; exact h.1, e⟩, fun k => k.imp id fun e => e.2⟩
        · rename_i h
          refine ⟨Or.inl, fun k => ?_⟩
          rcases k with k | ⟨k1, rfl⟩
          · exact k
          · have : hasB M n = true := by
              cases e : hasB M n with
              | true => rfl
              | false => exact absurd ⟨k1, e⟩ h
            unfold hasB at this
            rw [List.any_eq_true] at this
            obtain ⟨s, hs, he⟩ := this
            rw [beq_iff_eq] at he
            have e : s = n := ByteArray.ext (Array.ext' he)
            rw [← e]; exact hs
      rw [hA, List.mem_cons]
      constructor
      · rintro ((h | h) | h)
        · exact Or.inl h
        · exact Or.inr ⟨h.1, Or.inl h.2⟩
        · exact Or.inr ⟨h.1, Or.inr h.2⟩
      · rintro (h | ⟨h1, h | h⟩)
        · exact Or.inl (Or.inl h)
        · exact Or.inl (Or.inr ⟨h1, h⟩)
        · exact Or.inr ⟨h1, h⟩
  have := gen xs []
  simpa [varsOf] using this
/-- The variables of a rule in the order of their first places. -/
def vsF (r : Rl) : List ByteArray := varsOf (leavesL (atsL r.1 r.2))
theorem vsf_vars (r : Rl) : IsVars r (vsF r) := ⟨UnrK.vars_nodup _, fun _ => vars_iff⟩
theorem vsf_len (r : Rl) : (vsF r).length = (VsR r).length := (vars_perm (vsf_vars r) (vsr_vars r)).length_eq
def nW (k : Nat) : ByteArray := newName ⟨#[87]⟩ k
theorem nW_var (k : Nat) (h : k < 5) : varB (nW k) = true := by
  have : ∀ k, k < 5 → varB (nW k) = true := by decide +kernel
  exact this k h
theorem nW_inj {j k : Nat} (hj : j < 5) (hk : k < 5) (h : nW j = nW k) : j = k := by
  have : ∀ j, j < 5 → ∀ k, k < 5 → (nW j).data.toList = (nW k).data.toList → j = k := by decide +kernel
  exact this j hj k hk (by rw [h])
theorem bn_zip (f : Nat → ByteArray) (vs : List ByteArray) : ∀ k, k ≤ vs.length → bnK f vs k = (vs.take k).zip ((List.range k).map fun j => Tm.mk (f j) [])
  | 0, _ => by simp [bnK]
  | k + 1, h => by
    obtain ⟨v, hv⟩ : ∃ v, vs[k]? = some v := ⟨vs[k]'(by omega), by simp⟩
    rw [bn_next hv, bn_zip f vs k (by omega), take_get vs k v hv, List.range_succ, List.map_append, List.zip_append (by rw [List.length_take, List.length_map, List.length_range]; omega)]
    rfl
/-- The renamed rule. -/
def renF (r : Rl) : Rl := (appT (bnK nW (vsF r) (vsF r).length) r.1, atomsL (appT (bnK nW (vsF r) (vsF r).length)) r.2)
theorem ren_facts (r : Rl) (h5 : (VsR r).length ≤ 5) : ∃ (g : ByteArray → ByteArray) (χ : ByteArray → Tm), (∀ n ∈ vsF r, χ n = .mk (g n) []) ∧ (∀ n, n ∉ vsF r → χ n = .mk n []) ∧ (∀ n ∈ vsF r, varB (g n) = true) ∧ ((vsF r).map g).Nodup ∧ appT (bnK nW (vsF r) (vsF r).length) = repT χ := by
  have hl := vsf_len r
  have hnd := (vsf_vars r).1
  have hV : ∀ n ∈ vsF r, varB n = true := fun n hn => ((vsf_vars r).2 n).1 hn |>.1
  generalize vsF r = vs at *
  have hz := bn_zip nW vs vs.length (Nat.le_refl _)
  rw [List.take_length] at hz
  rw [hz]
  generalize hu : (List.range vs.length).map (fun j => Tm.mk (nW j) []) = u
  have hul : u.length = vs.length := by rw [← hu]; simp
  have hlook : ∀ (i : Nat) n, vs[i]? = some n → leafS (vs.zip u) n = .mk (nW i) [] := fun i n hi => by
    unfold leafS
    rw [look_zip hnd hul i n hi, ← hu, List.getElem?_map, List.getElem?_range (List.getElem?_eq_some_iff.1 hi).1]
    rfl
  refine ⟨fun n => (leafS (vs.zip u) n).nm, leafS (vs.zip u), fun n hn => ?_, fun n hn => ?_, fun n hn => ?_, ?_, ?_⟩
  · obtain ⟨i, hi⟩ := List.mem_iff_getElem?.1 hn
    show leafS (vs.zip u) n = .mk (leafS (vs.zip u) n).nm []
    rw [hlook i n hi]; rfl
  · unfold leafS; rw [look_out hn]; rfl
  · obtain ⟨i, hi⟩ := List.mem_iff_getElem?.1 hn
    show varB (leafS (vs.zip u) n).nm = true
    rw [hlook i n hi]
    exact nW_var i (by have := (List.getElem?_eq_some_iff.1 hi).1; omega)
  · have e : vs.map (fun n => (leafS (vs.zip u) n).nm) = (List.range vs.length).map nW := by
      apply List.ext_getElem?
      intro i
      rw [List.getElem?_map, List.getElem?_map]
      by_cases hi : i < vs.length
      · obtain ⟨v, hv⟩ : ∃ v, vs[i]? = some v := ⟨vs[i], by simp⟩
        rw [hv, List.getElem?_range hi]
        show some (leafS (vs.zip u) v).nm = some (nW i)
        rw [hlook i v hv]; rfl
      · rw [List.getElem?_eq_none (by omega), List.getElem?_eq_none (by rw [List.length_range]; omega)]; rfl
    rw [e, List.nodup_iff_pairwise_ne, List.pairwise_map]
    exact (List.pairwise_lt_range).imp_of_mem fun {a b} ha hb hab e => by
      have := nW_inj (by have := List.mem_range.1 ha; omega) (by have := List.mem_range.1 hb; omega) e
      omega
  · funext t; exact (rep_app _ t).symm
/-- A rule that is renamed, its body rearranged. -/
theorem other_nf {r o : Rl} (h0 : codeN r = 0) (ho : o.1 = (renF r).1) (hb : ∀ y, y ∈ o.2 ↔ y ∈ (renF r).2) (h8 : o.2.length ≤ 8) : codeN o = 0 ∧ ∀ x, NfOf o x ↔ NfOf r x := by
  obtain ⟨hv, h5⟩ := code_zero h0
  obtain ⟨g, χ, h1, h2, h3, h4, h6⟩ := ren_facts r h5
  have hh : o.1 = repT χ r.1 := by rw [ho, ← h6]; rfl
  have hm : ∀ y, y ∈ o.2 ↔ ∃ z ∈ r.2, y = (z.1, repT χ z.2) := fun y => by
    rw [hb, ← h6]
    unfold renF atomsL
    rw [List.mem_map]
    exact ⟨fun ⟨z, hz, e⟩ => ⟨z, hz, e.symm⟩, fun ⟨z, hz, e⟩ => ⟨z, hz, e.symm⟩⟩
  have hV := vars_of (vsf_vars r) g χ h1 h2 h3 h4 hh hm
  have hp := vars_perm (vsr_vars o) hV
  have hlen : (VsR o).length ≤ 5 := by rw [hp.length_eq, List.length_map, vsf_len]; exact h5
  have hφ : VV χ := fun n => by
    by_cases hn : n ∈ vsF r
    · refine ⟨fun _ => ⟨g n, h1 n hn, h3 n hn⟩, fun e => ?_⟩
      have := ((vsf_vars r).2 n).1 hn |>.1
      rw [e] at this; cases this
    · by_cases hl : n ∈ lvsR r
      · have hb : varB n = false := by
          cases e : varB n with
          | false => rfl
          | true => exact absurd (((vsf_vars r).2 n).2 ⟨e, hl⟩) hn
        exact ⟨fun e => (by rw [hb] at e; cases e), fun _ => h2 n hn⟩
      · exact ⟨fun e => ⟨n, h2 n hn, e⟩, fun _ => h2 n hn⟩
  have hvo : vlB o = true := by
    unfold vlB at hv ⊢
    simp only [Bool.and_eq_true, decide_eq_true_eq, List.all_eq_true] at hv ⊢
    refine ⟨h8, ?_, fun y hy => ?_⟩
    · rw [hh]; exact rep_atom hφ hv.2.1
    · obtain ⟨z, hz, rfl⟩ := (hm y).1 hy
      exact rep_atom hφ (hv.2.2 z hz)
  have hc : codeN o = 0 := by
    unfold codeN
    rw [if_pos hvo, if_neg (by omega)]
  refine ⟨hc, fun x => ?_⟩
  have hN : IsNF (VsR o) o x ↔ IsNF (vsF r) r x := nf_other (vsf_vars r) (vsr_vars o) g χ h1 h2 h3 h4 hh hm
  have hR : IsNF (vsF r) r x ↔ IsNF (VsR r) r x := ⟨nf_perm (vars_perm (vsf_vars r) (vsr_vars r)), nf_perm (vars_perm (vsr_vars r) (vsf_vars r))⟩
  exact ⟨fun h => ⟨fun _ => hR.1 (hN.1 (h.1 hc)), fun e => absurd h0 e⟩, fun h => ⟨fun _ => hN.2 (hR.2 (h.1 h0)), fun e => absurd hc e⟩⟩
theorem bounds_u8 {n : Int} (h : (Lit.int .u8 n).wf = true) : ∃ k : Nat, n = k ∧ k ≤ 255 := by
  simp [Lit.wf, IntKind.min, IntKind.max, IntKind.signed, IntKind.bits] at h
  exact ⟨n.toNat, by omega, by omega⟩
/-- The first k of a list that is turned by d. -/
def rotG {α : Type} (l : List α) (d k : Nat) : List α := (List.range k).filterMap fun i => l[(i + d) % l.length]?
theorem rotG_more {α : Type} {l : List α} {d k : Nat} {r : α} (h : l[(k + d) % l.length]? = some r) : rotG l d (k + 1) = rotG l d k ++ [r] := by
  unfold rotG
  rw [List.range_succ, List.filterMap_append]
  simp [h]
theorem rotG_mem {α : Type} {l : List α} {d : Nat} (hn : 0 < l.length) (x : α) : x ∈ rotG l d l.length ↔ x ∈ l := by
  unfold rotG
  rw [List.mem_filterMap]
  constructor
  · rintro ⟨i, _, h⟩
    exact List.mem_of_getElem? h
  · intro h
    obtain ⟨j, hj⟩ := List.mem_iff_getElem?.1 h
    have hjl := (List.getElem?_eq_some_iff.1 hj).1
    have hd := Nat.mod_lt d hn
    refine ⟨(j + (l.length - d % l.length)) % l.length, List.mem_range.2 (Nat.mod_lt _ hn), ?_⟩
    have e : ((j + (l.length - d % l.length)) % l.length + d) % l.length = j := by
      rw [Nat.add_mod, Nat.mod_mod, ← Nat.add_mod]
      have : j + (l.length - d % l.length) + d = j + l.length * (d / l.length + 1) := by
        have := Nat.div_add_mod d l.length
        rw [Nat.mul_add, Nat.mul_one]
        omega
      rw [this, Nat.add_mul_mod_self_left, Nat.mod_eq_of_lt hjl]
    rw [e]
    exact hj
end NolF
end Go.Proofs.YtikkaiiinkeobaaGreatDoor
