/- Texts laid together: UnrF; UnrG. Their own heads stand before each. -/
import Derived.Test.YtdkpflojdnkbnaaGreatDoorHAG
import Derived.Test.YtdkpflojdnkbnaaGreatDoorHAH
import Derived.Test.YtdkpflojdnkbnaaGreatDoorHAE
import Derived.Deep.AppendLies
import Derived.Laws.OwnMore
import Derived.Test.YtdkpflojdnkbnaaGreatDoorHAQ
/- The reference's collect: the variables of a term, appended to a row of the call's own where they are new. Condition: at most three million names. -/
namespace Go.Proofs.YtdkpflojdnkbnaaGreatDoor
open Go Go.RowKit
namespace UnrF
open LexM TermM TermI Kit TermN TermU TermL TermE TermF UniK UniM UniA UniD UniE UniG
/-- The list with the variables of a term that are new to it. -/
def collX (xs : List ByteArray) (t : Tm) : List ByteArray := (leavesT t).foldl addV xs
def collXs (xs : List ByteArray) (l : List Tm) : List ByteArray := (leavesL l).foldl addV xs
theorem colls_next {xs : List ByteArray} {l : List Tm} {k : Nat} {t : Tm} (h : l[k]? = some t) : collXs xs (l.take (k + 1)) = collX (collXs xs (l.take k)) t := by
  unfold collXs collX
  rw [leaves_next l k t h, List.foldl_append]
theorem colls_nil (xs : List ByteArray) : collXs xs [] = xs := rfl
theorem addV_le (M : List ByteArray) (s : ByteArray) : (addV M s).length ≤ M.length + 1 := by
  unfold addV
  split <;> simp
theorem fold_le : ∀ (ys M : List ByteArray), (ys.foldl addV M).length ≤ M.length + ys.length
  | [], M => by simp
  | a :: r, M => by
    have h := fold_le r (addV M a)
    have h2 := addV_le M a
    simp only [List.foldl_cons, List.length_cons]
    omega
theorem colls_le (xs : List ByteArray) (l : List Tm) : (collXs xs l).length ≤ xs.length + sizeL l := by
  have h1 := fold_le (leavesL l) xs
  have h2 := leavesL_len l
  unfold collXs
  omega
theorem has_mem {xs : List ByteArray} {s : ByteArray} (h : s ∈ xs) : hasB xs s = true := by
  unfold hasB
  exact List.any_eq_true.2 ⟨s, h, by simp⟩
theorem has_none {xs : List ByteArray} {s : ByteArray} (h : ∀ x ∈ xs, x ≠ s) : hasB xs s = false := by
  unfold hasB
  rw [List.any_eq_false]
  intro x hx e
  exact h x hx (Go.WideShapes.bytes_inj (by simpa using e))
theorem coll_old {xs : List ByteArray} {n : ByteArray} (hh : hasB xs n = true) : collX xs (.mk n []) = xs := by
  simp [collX, leavesT, addV, hh]
theorem coll_new {xs : List ByteArray} {n : ByteArray} (hv : varB n = true) (hh : hasB xs n = false) : collX xs (.mk n []) = xs ++ [n] := by
  simp [collX, leavesT, addV, hh, hv]
theorem coll_fun {xs : List ByteArray} {n : ByteArray} {l : List Tm} (h : isV (.mk n l) = false) : collX xs (.mk n l) = collXs xs l := by
  unfold isV at h
  cases l with
  | nil =>
    simp [Tm.args, Tm.nm] at h
    simp [collX, collXs, leavesT, leavesL, addV, h]
  | cons a r => simp [collX, collXs, leavesT]
/-- What collect leaves: the list with what is new, in the same row or a new one; nothing else has turned. -/
def ColQ (base : Nat) (v : Value) (ys : List ByteArray) (w : World) (e : Ending) (w' : World) : Prop :=
  ∃ v', e = .returned v' ∧ w'.ownsRow base 9 1 v' ys.length (strs ys) ∧ w.grownBy w' v.ownBlock ∧ ∀ k, v'.ownBlock = some k → v.ownBlock = some k ∨ w.heap.size ≤ k
theorem gb_trans {a b c : World} {row row' : Option Nat} (h : a.grownBy b row) (k : b.grownBy c row') (hr : ∀ j, row' = some j → row = some j ∨ a.heap.size ≤ j) : a.grownBy c row :=
  ⟨k.os.trans h.os, k.tape.trans h.tape, k.output.trans h.output, Nat.le_trans h.size k.size, fun i hi hne => (k.block i (Nat.lt_of_lt_of_le hi h.size) (fun e => by rcases hr i e.symm with e' | e'; exact hne e'.symm; omega)).trans (h.block i hi hne)⟩
theorem gb_of {a b : World} (h : Below a.heap.size a b) (row : Option Nat) : a.grownBy b row := ⟨h.os, h.tape, h.output, h.size, fun i hi _ => h.block i hi⟩
theorem gb_base {a b : World} {row : Option Nat} {base : Nat} (h : a.grownBy b row) (hb : base ≤ a.heap.size) (hr : ∀ j, row = some j → base ≤ j) : Below base a b :=
  ⟨h.os, h.tape, h.output, h.size, fun i hi => h.block i (by omega) (fun e => by have := hr i e.symm; omega)⟩
def CollT (t : Tm) : Prop := ∀ (B : Nat) (w : World) (base : Nat) (v sv : Value) (xs : List ByteArray), w.ownsRow base 9 1 v xs.length (strs xs) → base ≤ w.heap.size → B ≤ base → SlIn (· < B) w t.args sv → t.nm.size ≤ maxLen → xs.length + sizeT t ≤ 3000000 →
  Calls Tryz.prog 78 #[v, .agg #[.string t.nm, sv]] w (ColQ base v (collX xs t) w)
theorem isV_leaf {n : ByteArray} {l : List Tm} (h : isV (.mk n l) = true) : l = [] ∧ varB n = true := by
  unfold isV at h
  simp only [Bool.and_eq_true, List.isEmpty_iff, Tm.args, Tm.nm] at h
  exact h
set_option maxRecDepth 100000 in
set_option maxHeartbeats 3200000 in
theorem coll_leaf (n : ByteArray) (hv : isV (.mk n []) = true) (w : World) (base : Nat) (v : Value) (p : Option Addr) (c : Nat) (xs : List ByteArray) (hown : w.ownsRow base 9 1 v xs.length (strs xs)) (hbase : base ≤ w.heap.size) (hn : n.size ≤ maxLen) (hz : xs.length ≤ 3000000) :
    Calls Tryz.prog 78 #[v, .agg #[.string n, .slice p 0 c]] w (ColQ base v (collX xs (.mk n [])) w) := by
  obtain ⟨i0, hi, hz0, hz1, hz2⟩ := info_parts Tryz.info9s
  obtain ⟨W1, hW1⟩ : ∃ W1, W1 = w.alloc (.cells #[.string n, .slice p 0 c] 24) := ⟨_, rfl⟩
  have G0 : Hid (Below w.heap.size w W1) := Lib.hid (by rw [hW1]; exact below_alloc w _)
  have H1 : Hid (Has W1 w.heap.size #[.string n, .slice p 0 c]) := Lib.hid (by rw [hW1]; exact Has.new _ _ _)
  have VR := Lib.hid (fun w' => show Calls Tryz.prog 117 #[.agg #[.string n, .slice p 0 c]] w' (fun e w'' => e = .returned (.bool (isV (.mk n []))) ∧ Gr w' w'') from rvar_t (.mk n []) p c w' hn)
  rw [hv] at VR
  have hvn := (isV_leaf hv).2
  have HO : Hid (W1.ownsRow base 9 1 v xs.length (strs xs)) := Lib.hid (own_below hown G0.out)
  have VL := Lib.hid (fun k hk => show base ≤ k ∧ k < w.heap.size from hown.lt k hk)
  have Q1 : Hid (∀ k x, xs[k]? = some x → x = n → collX xs (.mk n []) = xs) := Lib.hid (fun k x hx e => by subst e; exact coll_old (has_mem (List.mem_of_getElem? hx)))
  have Q2 : Hid ((∀ j x, j < xs.length → xs[j]? = some x → x ≠ n) → collX xs (.mk n []) = xs ++ [n]) := Lib.hid (fun hh => coll_new hvn (has_none (fun x hx e => by
    obtain ⟨j, hj, hx2⟩ := List.mem_iff_getElem.1 hx
    exact hh j x hj (by simp [hj, hx2]) e)))
  have A1 : xs.length + 1 ≤ maxLen := by unfold maxLen; omega
  have A2 : (xs.length + 1) * 16 ≤ 140737488355328 := by omega
  obtain ⟨a9, c9, rfl⟩ := row_form hown
  unfold ColQ
  generalize collX xs (.mk n []) = R at *
  have hbs := hbase
  clear hv hvn hown hn hbase
  have HNN : Hid (xs.length = xs.length) := Lib.hid rfl
  generalize hnl : xs.length = m at *
  have HN := Lib.hid hnl
  clear hnl HNN
  go_enter Tryz.func78, Tryz.ntmps78
  go_upto_region 1 with fail
  rw [← hW1]
  obtain ⟨y1, y2, _⟩ := H1.out.two
  clear hW1
  go_wp2_with fail
  refine (VR.out _).mono ?_
  rintro e w2 ⟨rfl, g2⟩
  have D2 := Lib.hid (next0 G0.out g2.1)
  have H2 := Lib.hid (H1.out.step0 g2.1)
  have O2 := Lib.hid (own_below HO.out g2.1)
  have hs2 : w.heap.size + 1 ≤ w2.heap.size := H2.out.lt
  clear y1 y2 g2 HO
  go_wp2_with fail
  go_loopw [5] (fun i wr => ∃ k : Nat, k ≤ m ∧ i = .int .i64 k ∧ Hid (∀ j x, j < k → xs[j]? = some x → x ≠ n) ∧ Hid (Below w2.heap.size w2 wr)) (fun i _ => m - (intOf i).toNat)
  case atStart => exact ⟨0, Nat.zero_le _, rfl, Lib.hid (fun j x hj => absurd hj (Nat.not_lt_zero _)), Lib.hid (Below.refl _ _)⟩
  case round =>
    obtain ⟨k, hk, rfl, hA, hg⟩ := hrel
    obtain ⟨y1, y2, _⟩ := (H2.out.step0 hg.out).two
    have D5 := Lib.hid (next0 D2.out hg.out)
    have O5 := Lib.hid (own_below O2.out hg.out)
    have hs5 := hg.out.size
    by_cases hlt : k < m
    · obtain ⟨x, hx⟩ : ∃ x, xs[k]? = some x := ⟨xs[k]'(by rw [HN.out]; exact hlt), by simp⟩
      obtain ⟨g, cap, hav, hcell, _, _⟩ := row_str (xs := xs) (by rw [HN.out]; exact O5.out) hx
      rw [HN.out] at hav
      injection hav with hav1 _ hav2
      subst hav1 hav2
      have hk0 : (0 : Int) ≤ (k : Int) := by omega
      have hkm : (k : Int) < (m : Int) := by omega
      obtain ⟨z, hz⟩ : ∃ z, (x.toList == n.toList) = z := ⟨_, rfl⟩
      have HZ : Hid (z = true ↔ x = n) := Lib.hid (by rw [← hz, ByteArray.toList_eq, ByteArray.toList_eq, beq_iff_eq]; exact ⟨Go.WideShapes.bytes_inj, fun h => by rw [h]⟩)
      have HX := Lib.hid hx
      clear hx
      go_upto_region 5 with fail
      go_cut [21] (fun s21 wx => s21 = .bool z ∧ Hid (Below wr.heap.size wr wx))
      case first =>
        go_region
        all_goals
          go_wp2_with fail
          go_meet
          exact ⟨rfl, Lib.hid (Below.refl _ _).drew⟩
      case rest =>
        obtain ⟨rfl, G3⟩ := hcut
        have D6 := Lib.hid (next0 D5.out G3.out)
        have O6 := Lib.hid (own_below O5.out G3.out)
        have hg6 := Lib.hid (next0 hg.out G3.out)
        cases z
        · have HA2 : Hid (∀ j y, j < k + 1 → xs[j]? = some y → y ≠ n) := Lib.hid (fun j y hj hy => by
            by_cases e : j = k
            · subst e; rw [HX.out] at hy; injection hy with hy; subst hy; exact fun h => Bool.noConfusion (HZ.out.2 h)
            · exact hA.out j y (by omega) hy)
          go_wp2_with fail
          go_roundw
          case rel => exact ⟨k + 1, by omega, by go_num, HA2, hg6⟩
          case measure => simp [intOf]; omega
        · have HF := Lib.hid (Q1.out k x HX.out (HZ.out.1 rfl))
          clear HX HZ Q1 Q2 hA
          go_wp2_with fail
          go_ret
          refine ⟨_, rfl, ?_, gb_of D6.out _, fun k hk => Or.inl hk⟩
          rw [HF.out, HN.out]
          exact O6.out
    · obtain rfl : k = m := by omega
      have HF := Lib.hid (Q2.out (fun j x hj hx => hA.out j x hj hx))
      have A3 : base ≤ (wr.alloc (.cells #[.string n] 9)).heap.size := by simp; omega
      clear Q1 Q2 hA
      go_wp2_with (at_builtin; refine wpList_append_lies _ rfl _ _ 56 rfl base 9 i0 (.string ⟨#[]⟩) 1 16 Tryz.underlying56 hi hz0 hz1 hz2 rfl (by decide) (.slice a9 k c9) k (strs xs) rfl (O5.out.alloc _) ⟨wr.heap.size, 0, none⟩ 1 1 [.string n] rfl rfl (World.news_of_block (heap_alloc_new wr _)) (one1 _) (by decide) A1 A2 A3 (wr.heap.size + 1) (by simp) ?_; intro g4 cap4 w4 hown4 hgrow4 hat4 hlt4)
      have G6 := Lib.hid (gb_trans (row := (Value.slice a9 k c9).ownBlock) (gb_of (next0 D5.out (below_alloc wr (.cells #[.string n] 9))) _) hgrow4 (fun j hj => Or.inl hj))
      have O6 : Hid (w4.ownsRow base 9 1 (.slice (some ⟨g4, 0, none⟩) (k + 1) cap4) R.length (strs R)) := Lib.hid (by
        rw [HF.out, List.length_append, HN.out]
        unfold strs at hown4 ⊢
        rw [List.map_append]
        exact hown4)
      have V6 : Hid (∀ j, (Value.slice (some ⟨g4, 0, none⟩) (k + 1) cap4).ownBlock = some j → (Value.slice a9 k c9).ownBlock = some j ∨ w.heap.size ≤ j) := Lib.hid (fun j hj => by
        have e' : g4 = j := by simpa [Value.ownBlock] using hj
        subst e'
        rcases hat4 with h | h
        · exact Or.inl h
        · exact Or.inr (by omega))
      clear hown4 hgrow4 hat4 y1 y2
      go_wp2_with fail
      go_ret
      exact ⟨_, rfl, O6.out, G6.out, V6.out⟩
set_option maxRecDepth 100000 in
set_option maxHeartbeats 3200000 in
theorem coll_any (t : Tm) : CollT t := by
  induction t using Tm.ind with
  | h n l ih =>
    intro B w base v sv xs hown hbase hB h hn hz
    dsimp only [Tm.args, Tm.nm] at h hn ⊢
    obtain ⟨p, c, rfl, _, hc, hm, hR⟩ := h.row
    cases hv : isV (.mk n l)
    · have VR := Lib.hid (fun w' => show Calls Tryz.prog 117 #[.agg #[.string n, .slice p l.length c]] w' (fun e w'' => e = .returned (.bool (isV (.mk n l))) ∧ Gr w' w'') from rvar_t (.mk n l) p c w' hn)
      rw [hv] at VR
      rw [coll_fun hv]
      obtain ⟨W1, hW1⟩ : ∃ W1, W1 = w.alloc (.cells #[.string n, .slice p l.length c] 24) := ⟨_, rfl⟩
      have G0 : Hid (Below w.heap.size w W1) := Lib.hid (by rw [hW1]; exact below_alloc w _)
      have H1 : Hid (Has W1 w.heap.size #[.string n, .slice p l.length c]) := Lib.hid (by rw [hW1]; exact Has.new _ _ _)
      have hz' : xs.length + sizeL l ≤ 2999999 := by simp only [sizeT] at hz; omega
      have hlf : l.length ≤ 3000000 := by have := len_size l; omega
      have HR := Lib.hid hR
      have HB := Lib.hid hB
      have NX : Hid (∀ k t, l[k]? = some t → collXs xs (l.take (k + 1)) = collX (collXs xs (l.take k)) t) := Lib.hid (fun k t h => colls_next h)
      have IH : Hid (∀ k t, l[k]? = some t → ∀ (w' : World) (v sv : Value), w'.ownsRow base 9 1 v (collXs xs (l.take k)).length (strs (collXs xs (l.take k))) → base ≤ w'.heap.size → SlIn (· < B) w' t.args sv → t.nm.size ≤ maxLen →
          Calls Tryz.prog 78 #[v, .agg #[.string t.nm, sv]] w' (ColQ base v (collX (collXs xs (l.take k)) t) w')) := Lib.hid (fun k t hk w' v sv ho hb hs hn => by
        refine ih t (List.mem_of_getElem? hk) B w' base v sv _ ho hb hB hs hn ?_
        have e := size_next l k t hk
        have h1 := sizeL_take l (k + 1)
        have h2 := colls_le xs (l.take k)
        omega)
      have FL : Hid (collXs xs (l.take l.length) = collXs xs l) := Lib.hid (by simp)
      have VL := Lib.hid (fun k hk => show base ≤ k ∧ k < w.heap.size from hown.lt k hk)
      have HO : Hid (W1.ownsRow base 9 1 v (collXs xs (l.take 0)).length (strs (collXs xs (l.take 0)))) := Lib.hid (by rw [List.take_zero, colls_nil]; exact own_below hown G0.out)
      generalize hlm : l.length = m at *
      have HM := Lib.hid hlm
      have hbs := hbase
      clear ih hR h hown hlm hz hz' hB hc hm hn hv hbase
      unfold ColQ at IH ⊢
      go_enter Tryz.func78, Tryz.ntmps78
      go_upto_region 1 with fail
      rw [← hW1]
      obtain ⟨y1, y2, _⟩ := H1.out.two
      clear hW1
      go_wp2_with fail
      refine (VR.out _).mono ?_
      rintro e w2 ⟨rfl, g2⟩
      have D2 : Hid (w.grownBy w2 v.ownBlock) := Lib.hid (gb_of (next0 G0.out g2.1) _)
      have H2 := Lib.hid (H1.out.step0 g2.1)
      have O2 := Lib.hid (own_below HO.out g2.1)
      have V2 : Hid (∀ j, v.ownBlock = some j → v.ownBlock = some j ∨ w.heap.size + 1 ≤ j) := Lib.hid (fun j h => Or.inl h)
      clear y1 y2 g2 HO
      go_wp2_with fail
      go_loopw [0, 6] (fun u i wr => ∃ k : Nat, k ≤ m ∧ i = .int .i64 k ∧ Hid (wr.ownsRow base 9 1 u (collXs xs (l.take k)).length (strs (collXs xs (l.take k)))) ∧ Hid (w.grownBy wr v.ownBlock) ∧ Hid (Has wr w.heap.size #[.string n, .slice p m c]) ∧ Hid (∀ j, u.ownBlock = some j → v.ownBlock = some j ∨ w.heap.size + 1 ≤ j)) (fun _ i _ => m - (intOf i).toNat)
      case atStart => exact ⟨0, Nat.zero_le _, rfl, O2, D2, H2, V2⟩
      case round =>
        obtain ⟨k, hk, rfl, hO, hD, hX, hV⟩ := hrel
        obtain ⟨y1, y2, _⟩ := hX.out.two
        have DB : Hid (Below base w wr) := Lib.hid (gb_base hD.out hbs (fun j hj => (VL.out j hj).1))
        have hsr : w.heap.size + 1 ≤ wr.heap.size := hX.out.lt
        by_cases hlt : k < m
        · obtain ⟨t, b, o, q, d, ht, rfl, hb, c1, c2, hs, hts⟩ := (Row.deep HR.out DB.out HB.out) k (by rw [HM.out]; exact hlt)
          have NW := Lib.hid (NX.out k t ht)
          have IT := Lib.hid (IH.out k t ht wr _ _ hO.out (by omega) hs hts)
          clear ht hs hts
          rw [← NW.out] at IT
          clear NW
          generalize t.nm = tn at *
          generalize t.args.length = ta at *
          go_wp2_with fail
          refine IT.out.mono ?_
          rintro e w3 ⟨v3, rfl, ho3, hg3, hv3⟩
          have O3 := Lib.hid ho3
          have D3 := Lib.hid (gb_trans hD.out hg3 (fun j hj => (hV.out j hj).imp id (fun h => by omega)))
          have X3 := Lib.hid (Has.grown hX.out hg3 (fun e => by rcases hV.out _ e with h | h; have := (VL.out _ h).2; omega; omega))
          have V3 : Hid (∀ j, v3.ownBlock = some j → v.ownBlock = some j ∨ w.heap.size + 1 ≤ j) := Lib.hid (fun j hj => by
            rcases hv3 j hj with h | h
            · exact hV.out j h
            · exact Or.inr (by omega))
          clear ho3 hg3 hv3 IT y1 y2
          go_wp2_with fail
          go_roundw
          case rel => exact ⟨k + 1, by omega, by go_num, O3, D3, X3, V3⟩
          case measure => simp [intOf]; omega
        · obtain rfl : k = m := by omega
          have hO2 := hO.out
          rw [FL.out] at hO2
          have hO3 := Lib.hid hO2
          clear hO2
          go_wp2_with fail
          go_ret
          exact ⟨_, rfl, hO3.out, hD.out, fun j hj => (hV.out j hj).imp id (fun h => by omega)⟩
    · obtain ⟨rfl, _⟩ := isV_leaf hv
      exact coll_leaf n hv w base v p c xs hown hbase hn (by omega)
end UnrF
end Go.Proofs.YtdkpflojdnkbnaaGreatDoor
/- The reference's Vars of a rule. Conditions: at most a thousand literals, at most a million parts. -/
namespace Go.Proofs.YtdkpflojdnkbnaaGreatDoor
open Go Go.RowKit
namespace UnrG
open LexM TermM TermI Kit TermN TermU TermL TermE TermF UniK UniM UniA UniD UniE UniG LigG LigU UnrA UnrF
theorem colls_one (t : Tm) : collX [] t = collXs [] [t] := by simp [collX, collXs, leavesL]
theorem ats_zero (h : Tm) (l : List Lt) : atsL h (l.take 0) = [h] := by simp [atsL]
theorem colls_all (h : Tm) (l : List Lt) : collXs [] (atsL h l) = varsOf (leavesL (atsL h l)) := rfl
theorem colls_snoc (xs : List ByteArray) (l : List Tm) (t : Tm) : collXs xs (l ++ [t]) = collX (collXs xs l) t := by
  unfold collXs collX
  rw [leavesL_app, List.foldl_append]
  simp [leavesL]
theorem ats_size {h : Tm} {l : List Lt} (hz : sizeL (atsL h l) ≤ 1000000) (k : Nat) {x : Lt} (hx : l[k]? = some x) : sizeL (atsL h (l.take k)) + sizeT x.2 ≤ 1000000 := by
  have e : atsL h (l.take (k + 1)) = atsL h (l.take k) ++ [x.2] := ats_next hx
  have h1 : atsL h l = atsL h (l.take (k + 1)) ++ (l.drop (k + 1)).map (·.2) := by
    unfold atsL
    rw [List.cons_append, ← List.map_append, List.take_append_drop]
  have h2 := sizeL_app (atsL h (l.take (k + 1))) ((l.drop (k + 1)).map (·.2))
  rw [← h1, e, sizeL_app] at h2
  simp only [sizeL] at h2
  omega
set_option maxRecDepth 100000 in
set_option maxHeartbeats 3200000 in
theorem rvars_rule (h : Tm) (l : List Lt) (w : World) (hv lv : Value) (hs : SlIn (· < w.heap.size) w h.args hv) (hl : LIn (· < w.heap.size) w l lv) (hn : h.nm.size ≤ maxLen) (hll : l.length ≤ 1000) (hz : sizeL (atsL h l) ≤ 1000000) :
    Calls Tryz.prog 40 #[.agg #[.string h.nm, hv, lv]] w (Vrs (varsOf (leavesL (atsL h l))) w) := by
  obtain ⟨p, c, rfl⟩ := hs.form
  obtain ⟨lp, lc, rfl⟩ := hl.form
  obtain ⟨W1, hW1⟩ : ∃ W1, W1 = w.alloc (.cells #[.string h.nm, .slice p h.args.length c, .slice lp l.length lc] 27) := ⟨_, rfl⟩
  have R1 : Hid (Has W1 w.heap.size #[.string h.nm, .slice p h.args.length c, .slice lp l.length lc]) := Lib.hid (by rw [hW1]; exact Has.new _ _ _)
  have K1 : Hid (Below w.heap.size w W1) := Lib.hid (by rw [hW1]; exact below_alloc _ _)
  have hs1 : w.heap.size + 1 ≤ W1.heap.size := by rw [hW1]; simp
  have C0 : Hid (Calls Tryz.prog 78 #[.slice none 0 0, .agg #[.string h.nm, .slice p h.args.length c]] W1 (ColQ W1.heap.size (.slice none 0 0) (collXs [] (atsL h (l.take 0))) W1)) := Lib.hid (by
    rw [ats_zero, ← colls_one]
    refine coll_any h w.heap.size W1 W1.heap.size _ _ [] ⟨rfl, Or.inl ⟨rfl, rfl⟩⟩ (Nat.le_refl _) (by omega) (hs.deep K1.out (Nat.le_refl _)) hn ?_
    have : sizeT h ≤ sizeL (atsL h l) := by unfold atsL; simp only [sizeL]; omega
    simp only [List.length_nil]
    omega)
  have LL := Lib.hid (fun w' (k : Below w.heap.size w w') => hl.keep (w' := w') fun b o hb => k.cell (p := ⟨b, o, none⟩) hb)
  have IT := Lib.hid (fun k x (hx : l[k]? = some x) w' v sv (ho : w'.ownsRow W1.heap.size 9 1 v (collXs [] (atsL h (l.take k))).length (strs (collXs [] (atsL h (l.take k))))) (hb : W1.heap.size ≤ w'.heap.size) (hs : SlIn (· < w.heap.size) w' x.2.args sv) (hn : x.2.nm.size ≤ maxLen) =>
    show Calls Tryz.prog 78 #[v, .agg #[.string x.2.nm, sv]] w' (ColQ W1.heap.size v (collXs [] (atsL h (l.take (k + 1)))) w') from by
      rw [ats_next hx, colls_snoc]
      refine coll_any x.2 w.heap.size w' W1.heap.size _ _ _ ho hb (by omega) hs hn ?_
      have h1 := colls_le [] (atsL h (l.take k))
      have h2 := ats_size hz k hx
      simp only [List.length_nil] at h1
      omega)
  have FL : Hid (collXs [] (atsL h (l.take l.length)) = varsOf (leavesL (atsL h l))) := Lib.hid (by rw [List.take_length, colls_all])
  clear hs hl hn hz
  generalize varsOf (leavesL (atsL h l)) = vz at *
  unfold Vrs
  unfold ColQ at C0 IT
  generalize hnl : l.length = n at *
  have HNL := Lib.hid hnl
  clear hnl
  generalize h.nm = hnm at *
  generalize h.args.length = hln at *
  obtain ⟨y1, y2, y3⟩ := UniA.three R1.out
  go_enter Tryz.func40, Tryz.ntmps40
  go_upto_region 1 with fail
  rw [← hW1]
  clear hW1
  go_wp2_with fail
  refine C0.out.mono ?_
  rintro e w2 ⟨v2, rfl, ho2, hg2, hv2⟩
  have O2 := Lib.hid ho2
  have G2 : Hid (Below W1.heap.size W1 w2) := Lib.hid (gb_base hg2 (Nat.le_refl _) (fun j hj => by simp [Value.ownBlock] at hj))
  have X2 := Lib.hid (R1.out.step0 G2.out)
  clear ho2 hg2 hv2 C0 y1 y2 y3
  go_wp2_with fail
  go_loopw [3, 4] (fun u i wr => ∃ k : Nat, k ≤ n ∧ i = .int .i64 k ∧ Hid (wr.ownsRow W1.heap.size 9 1 u (collXs [] (atsL h (l.take k))).length (strs (collXs [] (atsL h (l.take k))))) ∧ Hid (Below W1.heap.size W1 wr)) (fun _ i _ => n - (intOf i).toNat)
  case atStart => exact ⟨0, Nat.zero_le _, rfl, O2, G2⟩
  case round =>
    obtain ⟨k, hk, rfl, hO, hG⟩ := hrel
    obtain ⟨y1, y2, y3⟩ := UniA.three (R1.out.step0 hG.out)
    have DW := Lib.hid (next0 K1.out hG.out)
    by_cases hlt : k < n
    · obtain ⟨x, g, o, q5, d5, hx, rfl, hg, e1, e2, e3, hxs, hxn⟩ := lin_row (LL.out wr DW.out) k (by rw [HNL.out]; exact hlt)
      have CI := Lib.hid (IT.out k x hx wr _ _ hO.out hG.out.size hxs hxn)
      have VO := Lib.hid (fun j hj => show W1.heap.size ≤ j from (hO.out.lt j hj).1)
      have hsz := hG.out.size
      have e4 : wr.cell? ⟨g, o + k * 3 + 2, none⟩ = some (.slice q5 x.2.args.length d5) := e3
      clear hx hxs hxn e3
      generalize x.2.nm = xn at *
      generalize x.2.args.length = xl at *
      generalize x.1 = xb at *
      go_wp2_with fail
      refine CI.out.mono ?_
      rintro e w3 ⟨v3, rfl, ho3, hg3, hv3⟩
      have O3 := Lib.hid ho3
      have G3 := Lib.hid (hG.out.trans (gb_base hg3 hsz (fun j hj => VO.out j hj)))
      clear ho3 hg3 hv3 CI y1 y2 y3
      go_wp2_with fail
      go_roundw
      case rel => exact ⟨k + 1, by omega, by go_num, O3, G3⟩
      case measure => simp [intOf]; omega
    · obtain rfl : k = n := by omega
      have hO2 := hO.out
      rw [FL.out] at hO2
      have hO3 := Lib.hid hO2
      clear hO2
      go_wp2_with fail
      go_ret
      exact ⟨_, W1.heap.size, rfl, hO3.out, by omega, DW.out⟩
end UnrG
end Go.Proofs.YtdkpflojdnkbnaaGreatDoor
