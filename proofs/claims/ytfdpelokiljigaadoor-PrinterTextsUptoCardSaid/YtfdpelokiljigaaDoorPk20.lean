/- Texts laid together: TermTx. Their own heads stand before each. -/
import Derived.Test.YtfdpelokiljigaaDoorPk7
/- The reference's Text. Condition: at most a hundred million bytes of text. -/
namespace Go.Proofs.YtfdpelokiljigaaDoor
open Go Go.RowKit
namespace TermTx
open LexM TermM TermI Kit TermN TermU TermT
/-- The text up to k arguments, the first sign of the name before. -/
def tp (n : ByteArray) (l : List Tm) (k : Nat) : ByteArray := ⟨(n.data.toList ++ 40 :: argsK l k).toArray⟩
def tx (t : Tm) : ByteArray := ⟨(textT t).toArray⟩
theorem tx_size (t : Tm) : (tx t).size = (textT t).length := by show Array.size _ = _; simp
theorem tp_size (n : ByteArray) (l : List Tm) (k : Nat) : (tp n l k).size = n.size + 1 + (argsK l k).length := by
  show Array.size (_ : Array UInt8) = _
  have : n.size = n.data.size := rfl
  simp
  omega
theorem tp_zero (n : ByteArray) (l : List Tm) : tp n l 0 = n ++ ⟨#[40]⟩ := by
  unfold tp
  rw [argsK_zero]
  exact bytes_inj (by simp)
theorem tp_first (n : ByteArray) (l : List Tm) (t : Tm) (h : l[0]? = some t) : tp n l 1 = tp n l 0 ++ tx t := by
  unfold tp tx
  rw [argsK_zero, argsK_first l t h]
  exact bytes_inj (by simp)
theorem tp_next (n : ByteArray) (l : List Tm) (k : Nat) (t : Tm) (hk : 0 < k) (h : l[k]? = some t) : tp n l (k + 1) = tp n l k ++ ⟨#[44]⟩ ++ tx t := by
  unfold tp tx
  rw [argsK_next l k t hk h]
  exact bytes_inj (by simp)
theorem tx_mk (n : ByteArray) (l : List Tm) (h : l ≠ []) : tx (.mk n l) = tp n l l.length ++ ⟨#[41]⟩ := by
  unfold tp tx
  rw [text_mk, if_neg (by simpa using h)]
  exact bytes_inj (by simp)
theorem tx_leaf (n : ByteArray) : tx (.mk n []) = n := by
  unfold tx
  rw [text_mk]
  exact bytes_inj (by simp)
theorem text_args {n : ByteArray} {l : List Tm} (h : l ≠ []) : (textT (.mk n l)).length = n.size + 1 + (tailT l).length := by
  rw [text_mk, if_neg (by simpa using h)]
  have h2 : (argsK l l.length).length + 1 = (tailT l).length := by
    unfold argsK
    rw [List.take_length, List.length_drop]
    cases l with
    | nil => exact absurd rfl h
    | cons a r => simp [tailT]
  have h3 : n.data.toList.length = n.size := by simp
  simp only [List.length_append, List.length_cons, List.length_nil, h3]
  omega
def RTx (t : Tm) : Prop := ∀ (B : Nat) (w : World) (sv : Value), B ≤ w.heap.size → SlIn (· < B) w t.args sv → (textT t).length ≤ 100000000 →
  Calls Tryd.prog 33 #[.agg #[.string t.nm, sv]] w fun e w' => e = .returned (.string (tx t)) ∧ Gr w w'
set_option maxRecDepth 100000 in
set_option maxHeartbeats 3200000 in
theorem rtext_any (t : Tm) : RTx t := by
  induction t using Tm.ind with
  | h n l ih =>
    intro B w sv hB h hz
    dsimp only [Tm.args, Tm.nm] at h ⊢
    obtain ⟨p, c, rfl, _, hc, hm, hR⟩ := h.row
    cases l with
    | nil =>
      rw [tx_leaf]
      clear ih hR h
      dsimp only [List.length_nil]
      go_enter Tryd.func33, Tryd.ntmps33
      go_wp2_with fail
      go_ret
      exact ⟨rfl, Gr.alloc _ _⟩
    | cons a r =>
      have hl0 : 0 < (a :: r).length := by simp
      have hzz : n.size + 1 + (tailT (a :: r)).length ≤ 100000000 := by rw [← text_args (by simp)]; exact hz
      have E0 : Hid (tx (.mk n (a :: r)) = tp n (a :: r) (a :: r).length ++ ⟨#[41]⟩) := Lib.hid (tx_mk n (a :: r) (by simp))
      clear hz
      generalize (a :: r) = l at *
      have HR := Lib.hid hR
      have HB := Lib.hid hB
      have hlm1 : l.length ≤ 9223372036854775807 := Nat.le_trans hc hm
      have TZ := Lib.hid (tp_zero n l)
      have TF := Lib.hid (fun t h => tp_first n l t h)
      have TN := Lib.hid (fun k t hk h => tp_next n l k t hk h)
      have SZ : Hid (∀ k, (tp n l k).size ≤ 100000000) := Lib.hid (fun k => by
        rw [tp_size]
        have h1 : (argsK l k).length ≤ (tailT l).length := by
          unfold argsK; rw [List.length_drop]; have := tail_take l k; omega
        omega)
      have IH : Hid (∀ k t, l[k]? = some t → (tx t).size ≤ 100000000 ∧ (tp n l k).size + 1 + (tx t).size ≤ 200000002 ∧ ∀ (w' : World) (sv : Value), B ≤ w'.heap.size → SlIn (· < B) w' t.args sv →
          Calls Tryd.prog 33 #[.agg #[.string t.nm, sv]] w' fun e w'' => e = .returned (.string (tx t)) ∧ Gr w' w'') := Lib.hid (fun k t hk => by
        have h1 := (text_get hk).1
        have h2 := SZ.out k
        have h3 := tx_size t
        exact ⟨by omega, by omega, fun w' sv hb hs => ih t (List.mem_of_getElem? hk) B w' sv hb hs (by omega)⟩)
      have hn1 : n.size ≤ 100000000 := by omega
      generalize hlm : l.length = m at *
      have HM := Lib.hid hlm
      have hnz : ((m : Int) == 0) = false := by simp; omega
      clear ih hR h hlm hB hzz hc hm
      obtain ⟨W1, hW1⟩ : ∃ W1, W1 = w.alloc (.cells #[.string n, .slice p m c] 24) := ⟨_, rfl⟩
      have G0 : Hid (Gr w W1) := Lib.hid (by rw [hW1]; exact Gr.alloc w _)
      have H1 : Hid (Has W1 w.heap.size #[.string n, .slice p m c]) := Lib.hid (by rw [hW1]; exact Has.new _ _ _)
      go_enter Tryd.func33, Tryd.ntmps33
      go_upto_region 1 with fail
      rw [← hW1]
      clear hW1
      obtain ⟨x1, x2, _⟩ := H1.out.two
      go_wp2_with fail
      go_loopw [3, 17] (fun s i wr => ∃ k : Nat, k ≤ m ∧ i = .int .i64 k ∧ s = .string (tp n l k) ∧ Hid (Gr W1 wr)) (fun _ i _ => m - (intOf i).toNat)
      case atStart => exact ⟨0, Nat.zero_le _, rfl, by rw [TZ.out], Lib.hid (Gr.refl _)⟩
      case round =>
        obtain ⟨k, hk, rfl, rfl, hg⟩ := hrel
        have hszk := SZ.out k
        have DW := Lib.hid (G0.out.trans hg.out)
        obtain ⟨x1, x2, _⟩ := (hg.out.has H1.out).two
        by_cases hlt : k < m
        · obtain ⟨t, b, o, q, d, ht, rfl, hb, c1, c2, hs, hts⟩ := (HR.out.gr DW.out HB.out) k (by rw [HM.out]; exact hlt)
          obtain ⟨z1, z2, IT0⟩ := IH.out k t ht
          have IT := Lib.hid (IT0 wr _ (Nat.le_trans HB.out DW.out.size) hs)
          have hszn := SZ.out (k + 1)
          clear IT0 hs hts
          by_cases hk0 : k = 0
          · subst hk0
            simp only [Nat.zero_mul, Nat.add_zero] at c1 c2
            have NW := Lib.hid (TF.out t ht)
            clear ht
            generalize tx t = T at *
            generalize tp n l 0 = P at *
            generalize t.nm = tn at *
            generalize t.args.length = ta at *
            go_wp2_with fail
            refine IT.out.mono ?_
            rintro e w2 ⟨rfl, g2⟩
            have G2 := Lib.hid (hg.out.trans g2)
            clear g2
            go_wp2_with fail
            go_roundw
            case rel => exact ⟨0 + 1, by omega, by go_num, by rw [NW.out], G2⟩
            case measure => simp [intOf]; omega
          · have NW := Lib.hid (TN.out k t (by omega) ht)
            have hk1 : 0 < k := by omega
            clear ht hk0
            generalize tx t = T at *
            generalize tp n l k = P at *
            generalize t.nm = tn at *
            generalize t.args.length = ta at *
            go_wp2_with fail
            refine IT.out.mono ?_
            rintro e w2 ⟨rfl, g2⟩
            have G2 := Lib.hid (hg.out.trans g2)
            have hzs : (P ++ ⟨#[44]⟩ : ByteArray).size ≤ 100000001 := by rw [ByteArray.size_append]; have : (⟨#[44]⟩ : ByteArray).size = 1 := rfl; omega
            clear g2
            go_wp2_with fail
            go_roundw
            case rel => exact ⟨k + 1, by omega, by go_num, by rw [NW.out], G2⟩
            case measure => simp [intOf]; omega
        · obtain rfl : k = m := by omega
          generalize tp n l k = P at *
          go_wp2_with fail
          go_ret
          exact ⟨congrArg (fun z => Ending.returned (.string z)) E0.out.symm, DW.out⟩
end TermTx
end Go.Proofs.YtfdpelokiljigaaDoor
