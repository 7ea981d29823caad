/- Join of the reference; LexerJoins' walk. -/
import Derived.Test.YtckddlglldfniaaDoorLexS
import Derived.Test.YtckddlglldfniaaDoorLexZ
namespace Go.Proofs.YtckddlglldfniaaDoor
open Go Go.RowKit
namespace LexJ
open Kit LexM LexE LexG LexI LexW LexS LexZ
theorem join_snoc (xs : List (List UInt8)) (x sep : List UInt8) : Lib.join (xs ++ [x]) sep = if xs = [] then x else Lib.join xs sep ++ sep ++ x := by
  cases xs with
  | nil => simp [Lib.join_one]
  | cons a r =>
    rw [if_neg (by simp), List.cons_append, Lib.join_cons, Lib.join_cons]
    simp [Lib.joinTail]
theorem joinT_next (ts : List GTok) (k : Nat) (t : GTok) (h : ts[k]? = some t) : joinT (ts.take (k + 1)) = if t.1 = 0 then joinT (ts.take k) else if texts (ts.take k) = [] then t.2.1.data.toList else joinT (ts.take k) ++ [32] ++ t.2.1.data.toList := by
  unfold joinT
  rw [texts_snoc ts k t h]
  by_cases c : t.1 = 0
  · rw [if_pos c, if_pos c]
  · rw [if_neg c, if_neg c, List.map_append, List.map_cons, List.map_nil, join_snoc]
    by_cases e : texts (ts.take k) = []
    · rw [if_pos e, if_pos (by rw [e]; rfl)]
    · rw [if_neg e, if_neg (by simpa using e)]
theorem joinT_len (ts : List GTok) (hb : ∀ t ∈ ts, t.2.1.size ≤ 100) : ∀ k, k ≤ ts.length → (joinT (ts.take k)).length ≤ k * 101 := by
  intro k
  induction k with
  | zero => intro _; simp [joinT, texts, Lib.join_nil]
  | succ k ih =>
    intro hk
    obtain ⟨t, ht⟩ : ∃ t, ts[k]? = some t := ⟨ts[k]'(by omega), by simp⟩
    have hs := hb t (List.mem_of_getElem? ht)
    have hz := len_eq t.2.1
    have h := ih (by omega)
    rw [joinT_next ts k t ht]
    split
    · omega
    · split
      · omega
      · simp only [List.length_append, List.length_cons, List.length_nil]; omega
set_option maxRecDepth 100000 in
set_option maxHeartbeats 3200000 in
theorem rjoin_any (g off m cap : Nat) (ts : List GTok) (w : World) (hT : Toks w g off ts) (hl : ts.length = m) (hm : m ≤ 200) (hb : ∀ t ∈ ts, t.2.1.size ≤ 100) :
    Calls Tryd.prog 17 #[.slice (some ⟨g, off, none⟩) m cap] w fun e w' => e = .returned (.string ⟨(joinT ts).toArray⟩) ∧ w = w' := by
  have HB := Lib.hid hb
  have HT := Lib.hid hT
  have HL := Lib.hid hl
  have JL := Lib.hid (joinT_len ts hb)
  have HJ : Hid (joinT (ts.take m) = joinT ts) := by rw [List.take_of_length_le (by omega)]; exact rfl
  generalize joinT ts = J at *
  clear hb hT hl
  go_enter Tryd.func17, Tryd.ntmps17
  go_wp2_with fail
  go_loop [3, 4, 5] (fun s b i => ∃ k : Nat, k ≤ m ∧ i = .int .i64 k ∧ s = .string ⟨(joinT (ts.take k)).toArray⟩ ∧ b = .bool (texts (ts.take k)).isEmpty) (fun _ _ i => m - (intOf i).toNat)
  case atStart => exact ⟨0, Nat.zero_le _, rfl, rfl, rfl⟩
  case round =>
    obtain ⟨k, hk, rfl, rfl, rfl⟩ := hrel
    by_cases hlt : k < m
    · obtain ⟨t, ht⟩ : ∃ t, ts[k]? = some t := ⟨ts[k]'(by rw [HL.out]; exact hlt), by simp⟩
      obtain ⟨c1, c2, c3⟩ := HT.out.2 k t ht
      have SN := Lib.hid (texts_snoc ts k t ht)
      have JN := Lib.hid (joinT_next ts k t ht)
      have hjl := JL.out k (by rw [HL.out]; omega)
      have hts := HB.out t (List.mem_of_getElem? ht)
      have J0 : Hid (texts (ts.take k) = [] → joinT (ts.take k) = []) := Lib.hid (by unfold joinT; intro h; rw [h]; rfl)
      clear ht
      obtain ⟨t1, t2, t3⟩ := t
      dsimp only at c1 c2 c3 SN JN hts
      generalize texts (ts.take k) = acc at *
      generalize joinT (ts.take k) = jk at *
      have hj2 : (⟨jk.toArray⟩ : ByteArray).size ≤ 20200 := by show jk.toArray.size ≤ 20200; simp; omega
      by_cases h0 : t1 = 0
      · subst h0
        have S1 := SN.out
        rw [if_pos rfl] at S1
        have J1 := JN.out
        rw [if_pos rfl] at J1
        have S2 := Lib.hid S1
        have J2 := Lib.hid J1
        clear S1 J1 SN JN
        go_wp2_with fail
        go_round
        case rel => exact ⟨k + 1, by omega, by go_num, by rw [J2.out], by rw [S2.out]⟩
        case measure => simp [intOf] <;> omega
      · have h1 : (t1 == 0) = false := by simpa using h0
        have S1 := SN.out
        rw [if_neg h0] at S1
        have J1 := JN.out
        rw [if_neg h0] at J1
        have S2 : Hid ((texts (ts.take (k + 1))).isEmpty = false) := by rw [S1]; exact Lib.hid (by simp)
        clear S1 SN JN
        cases acc with
        | nil =>
          rw [if_pos rfl] at J1
          have J2 := Lib.hid J1
          clear J1
          obtain rfl : jk = [] := J0.out rfl
          clear J0
          go_wp2_with fail
          go_round
          case rel => exact ⟨k + 1, by omega, by go_num, by rw [J2.out]; exact congrArg Value.string (Go.WideShapes.bytes_inj (by simp)), by rw [S2.out]⟩
          case measure => simp [intOf] <;> omega
        | cons a r =>
          rw [if_neg (by simp)] at J1
          have J2 := Lib.hid J1
          clear J1
          clear J0
          go_wp2_with fail
          go_round
          case rel => exact ⟨k + 1, by omega, by go_num, by rw [J2.out]; exact congrArg Value.string (Go.WideShapes.bytes_inj (by simp)), by rw [S2.out]⟩
          case measure => simp [intOf] <;> omega
    · obtain rfl : k = m := by omega
      rw [HJ.out]
      go_wp2_with fail
      go_ret
      exact ⟨rfl, rfl⟩
set_option maxRecDepth 100000 in
set_option maxHeartbeats 3200000 in
theorem joins_some (g off m cap : Nat) (ts : List GTok) (w : World) (hw : Wd w) (hT : Toks w g off ts) (hl : ts.length = m) (hF : ∀ t ∈ ts, Fit t) :
    Calls Tryd.prog 5 #[.slice (some ⟨g, off, none⟩) m cap] w fun e w' => e = .returned (.bool true) ∧ Below w.heap.size w w' := by
  have C5 := Lib.hid (fun w hw => awake_any w hw)
  by_cases h200 : 200 < m
  · go_enter Tryd.func5, Tryd.ntmps5
    go_wp2_with fail
    refine (C5.out _ hw).mono ?_
    rintro e w' ⟨rfl, k⟩
    go_wp2_with fail
    go_ret
    exact ⟨rfl, k⟩
  have HT := Lib.hid hT
  have HL := Lib.hid hl
  have FF := Lib.hid hF
  have HW := Lib.hid hw
  clear hT hl hF hw
  go_enter Tryd.func5, Tryd.ntmps5
  go_wp2_with fail
  go_loop [3] (fun i => ∃ k : Nat, k ≤ m ∧ i = .int .i64 k ∧ Hid (∀ (j : Nat) (u : GTok), j < k → ts[j]? = some u → u.2.1.size ≤ 100)) (fun i => m - (intOf i).toNat)
  case atStart => exact ⟨0, Nat.zero_le _, rfl, Lib.hid (fun j u h => absurd h (Nat.not_lt_zero _))⟩
  case round =>
    obtain ⟨k, hk, rfl, hA⟩ := hrel
    by_cases hlt : k < m
    · obtain ⟨t, ht⟩ : ∃ t, ts[k]? = some t := ⟨ts[k]'(by rw [HL.out]; exact hlt), by simp⟩
      obtain ⟨c1, c2, c3⟩ := HT.out.2 k t ht
      have hfit := (FF.out t (List.mem_of_getElem? ht)).2
      have NX : Hid (t.2.1.size ≤ 100 → ∀ (j : Nat) (u : GTok), j < k + 1 → ts[j]? = some u → u.2.1.size ≤ 100) := by
        intro h j u hj hu
        by_cases e : j = k
        · subst e
          obtain rfl := Option.some.inj (ht.symm.trans hu)
          exact h
        · exact hA.out j u (by omega) hu
      clear ht hA
      obtain ⟨t1, t2, t3⟩ := t
      dsimp only at c1 c2 c3 NX hfit
      unfold maxLen at hfit
      by_cases hbig : 100 < t2.size
      · go_wp2_with fail
        refine (C5.out _ HW.out).mono ?_
        rintro e w' ⟨rfl, k⟩
        go_wp2_with fail
        go_ret
        exact ⟨rfl, k⟩
      · have N2 := Lib.hid (NX.out (by omega))
        clear NX
        go_wp2_with fail
        go_round
        case rel => exact ⟨k + 1, by omega, by go_num, N2⟩
        case measure => simp [intOf] <;> omega
    · obtain rfl : k = m := by omega
      have hb : ∀ t ∈ ts, t.2.1.size ≤ 100 := by
        intro t ht
        obtain ⟨j, hj, e⟩ := List.mem_iff_getElem.1 ht
        exact hA.out j t (by have := HL.out; omega) (by rw [List.getElem?_eq_getElem hj, e])
      have JL := joinT_len ts hb ts.length (Nat.le_refl _)
      rw [List.take_length, HL.out] at JL
      have C1 := Lib.hid (join_any (some ⟨g, off, none⟩) g off k cap ts w (Or.inr rfl) (Or.inr HT.out) HL.out (by omega) (by omega))
      have C2 := Lib.hid (fun w hT => rjoin_any g off k cap ts w hT HL.out (by omega) hb)
      clear hb JL hA
      generalize joinT ts = J at *
      go_wp2_with fail
      refine C1.out.mono ?_
      rintro e w1 ⟨rfl, k1⟩
      have W1 := Lib.hid (HW.out.below k1 HW.out.1)
      have T1 := Lib.hid (HT.out.below k1 HT.out.1)
      have D1 := Lib.hid k1
      clear k1
      go_wp2_with fail
      refine (C2.out _ T1.out).mono ?_
      rintro e w2 ⟨rfl, rfl⟩
      go_wp2_with fail
      refine (C5.out _ W1.out).mono ?_
      rintro e w' ⟨rfl, k3⟩
      have D3 := next0 D1.out k3
      go_wp2_with fail
      go_ret
      exact ⟨rfl, D3⟩
theorem rjoin_nil (a : Option Addr) (cap : Nat) (w : World) : Calls Tryd.prog 17 #[.slice a 0 cap] w fun e w' => e = .returned (.string ⟨#[]⟩) ∧ w = w' := by
  go_enter Tryd.func17, Tryd.ntmps17
  go_wp2_with fail
  go_loop [3, 4, 5] (fun s b i => s = .string ⟨#[]⟩ ∧ b = .bool true ∧ i = .int .i64 0) (fun _ _ _ => 0)
  case atStart => exact ⟨rfl, rfl, rfl⟩
  case round =>
    obtain ⟨rfl, rfl, rfl⟩ := hrel
    go_wp2_with fail
    go_ret
    exact ⟨rfl, rfl⟩
theorem joins_nil (a : Option Addr) (cap : Nat) (w : World) (hw : Wd w) : Calls Tryd.prog 5 #[.slice a 0 cap] w fun e w' => e = .returned (.bool true) ∧ Below w.heap.size w w' := by
  have C5 := Lib.hid (fun w hw => awake_any w hw)
  have C1 := Lib.hid (join_any a 0 0 0 cap [] w (Or.inl rfl) (Or.inl rfl) rfl (by omega) (by simp [joinT, texts, Lib.join_nil]))
  have HW := Lib.hid hw
  clear hw
  go_enter Tryd.func5, Tryd.ntmps5
  go_wp2_with fail
  go_loop [3] (fun i => i = .int .i64 0) (fun _ => 0)
  case atStart => rfl
  case round =>
    subst hrel
    go_wp2_with fail
    refine C1.out.mono ?_
    rintro e w1 ⟨rfl, k1⟩
    have W1 := Lib.hid (HW.out.below k1 HW.out.1)
    have D1 := Lib.hid k1
    clear k1
    go_wp2_with fail
    refine (rjoin_nil _ _ _).mono ?_
    rintro e w2 ⟨rfl, rfl⟩
    have J0 : (⟨(joinT []).toArray⟩ : ByteArray) = ⟨#[]⟩ := rfl
    go_wp2_with fail
    refine (C5.out _ W1.out).mono ?_
    rintro e w' ⟨rfl, k3⟩
    have D3 := next0 D1.out k3
    go_wp2_with fail
    go_ret
    exact ⟨rfl, D3⟩
end LexJ
end Go.Proofs.YtckddlglldfniaaDoor
