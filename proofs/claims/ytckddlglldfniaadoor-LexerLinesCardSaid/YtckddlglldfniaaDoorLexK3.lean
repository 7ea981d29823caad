/- LexerLines' walk. -/
import Derived.Test.YtckddlglldfniaaDoorLexU
namespace Go.Proofs.YtckddlglldfniaaDoor
open Go Go.RowKit
namespace LexK3
open Kit LexM LexA LexE LexF LexG LexI LexW LexS LexT LexU
def Any (w : World) (e : Ending) (w' : World) : Prop := ∃ (m cap : Nat) (g : Option Addr) (r1 r2 : Int), e = .returned (.tuple #[.slice g m cap, .int .i64 r1, .int .i64 r2]) ∧ Below w.heap.size w w'
theorem any_of (s : ByteArray) (w : World) (hw : Wd w) (hs : s.size ≤ 140737488355328) : Calls Tryd.prog 12 #[.string s] w (Any w) := by
  have h := lex_any s w hw hs
  by_cases hR : (lexR s.data.toList).2.2 = 0
  · refine (lexed_ok h hR).mono ?_
    rintro e w' ⟨g, cap, rfl, -, -, k⟩
    exact ⟨_, _, _, _, _, rfl, k⟩
  · refine (lexed_err h hR).mono ?_
    rintro e w' ⟨rfl, k⟩
    exact ⟨_, _, _, _, _, rfl, k⟩
theorem norm {l : List UInt8} (h : (lexR l).2.2 = 0) : lexR l = ((lexR l).1, 0, 0) := by
  unfold lexR at h ⊢
  split at h
  · exact absurd h (by decide)
  · rename_i hn
    rw [if_neg hn]
    obtain ⟨xs, e1, _⟩ := lexF_good _ _ _ h
    rw [e1]
theorem cat3 (s u : ByteArray) : (s ++ ⟨#[10]⟩ ++ u).data.toList = s.data.toList ++ 10 :: u.data.toList := by simp
theorem cat3_size (s u : ByteArray) : (s ++ ⟨#[10]⟩ ++ u).size = s.size + 1 + u.size := by
  rw [← len_eq, cat3, List.length_append, List.length_cons, len_eq, len_eq]; omega
theorem cov_le {S : List UInt8} : ∀ (ts : List Tok) (e : Nat), Cov S e ts → ∀ t ∈ ts, t.2.2 ≤ S.length
  | [], _, _, t, h => absurd h (by simp)
  | a :: ts, e, h, t, ht => by
    rcases List.mem_cons.1 ht with rfl | ht
    · exact h.2.1
    · exact cov_le ts _ h.2.2.2.2.2 t ht
/-- What the tokens of both texts are, place by place. -/
theorem both (s u : ByteArray) (hs : s.size ≤ 1000) (hu : u.size ≤ 1000) (ts us : List Tok) (h1 : lexR s.data.toList = (ts, 0, 0)) (h2 : lexR u.data.toList = (us, 0, 0)) :
    ∃ (p : Nat) (ns : List Tok), ts.length = p + 1 ∧ ns.length = p + us.length ∧ lexR (s ++ ⟨#[10]⟩ ++ u).data.toList = (ns, 0, 0) ∧
      (∀ i, i < p → ∃ t, ts[i]? = some t ∧ ns[i]? = some t) ∧
      (∀ j, j < us.length → ∃ t, us[j]? = some t ∧ t.2.2 ≤ 1000 ∧ ns[p + j]? = some (t.1, t.2.1, t.2.2 + (s.size + 1))) := by
  obtain ⟨xs, n, e1, e2⟩ := lines s.data.toList u.data.toList (by rw [len_eq]; omega) (by rw [len_eq]; omega) ts us h1 h2
  have hle := cov_le us 0 (covers _ _ h2)
  rw [len_eq] at hle e2
  refine ⟨xs.length, xs ++ us.map (moved (s.size + 1)), by rw [e1]; simp, by simp, by rw [cat3]; exact e2, ?_, ?_⟩
  · intro i hi
    refine ⟨xs[i], ?_, ?_⟩
    · rw [e1, List.getElem?_append_left hi, List.getElem?_eq_getElem hi]
    · rw [List.getElem?_append_left hi, List.getElem?_eq_getElem hi]
  · intro j hj
    refine ⟨us[j], List.getElem?_eq_getElem hj, ?_, ?_⟩
    · have := hle us[j] (List.getElem_mem hj); omega
    · rw [List.getElem?_append_right (by omega), Nat.add_sub_cancel_left, List.getElem?_map, List.getElem?_eq_getElem hj]
      rfl
set_option maxRecDepth 100000 in
set_option maxHeartbeats 6400000 in
theorem lines_law (s u : ByteArray) (w : World) (hw : Wd w) :
    Calls Tryd.prog 9 #[.string s, .string u] w fun e w' => e = .returned (.bool true) ∧ Below w.heap.size w w' := by
  have C5 := Lib.hid (fun w hw => awake_any w hw)
  have HW := Lib.hid hw
  have hG := hw.1
  clear hw
  by_cases h0 : 1000 < s.size
  · go_enter Tryd.func9, Tryd.ntmps9
    go_wp2_with fail
    refine (C5.out _ HW.out).mono ?_
    rintro e w' ⟨rfl, k⟩
    go_wp2_with fail
    go_ret
    exact ⟨rfl, k⟩
  by_cases h1 : 1000 < u.size
  · go_enter Tryd.func9, Tryd.ntmps9
    go_wp2_with fail
    refine (C5.out _ HW.out).mono ?_
    rintro e w' ⟨rfl, k⟩
    go_wp2_with fail
    go_ret
    exact ⟨rfl, k⟩
  have K1 := fun w hw => lex_any s w hw (by omega)
  have K2 := fun w hw => lex_any u w hw (by omega)
  by_cases hR : (lexR s.data.toList).2.2 = 0
  · by_cases hQ : (lexR u.data.toList).2.2 = 0
    · have C1 := Lib.hid (fun w hw => lexed_ok (K1 w hw) hR)
      have C2 := Lib.hid (fun w hw => lexed_ok (K2 w hw) hQ)
      have hc1 := lexR_count s.data.toList
      have hc2 := lexR_count u.data.toList
      have hc3 := lexR_count (s ++ ⟨#[10]⟩ ++ u).data.toList
      obtain ⟨p, ns, n1, n2, hN, hA, hB⟩ := both s u (by omega) (by omega) _ _ (norm hR) (norm hQ)
      have C3 : Hid (∀ w, Wd w → Calls Tryd.prog 12 #[.string (s ++ ⟨#[10]⟩ ++ u)] w (Got (lexR (s ++ ⟨#[10]⟩ ++ u).data.toList) w)) := Lib.hid (fun w hw => lexed_ok (lex_any _ w hw (by rw [cat3_size]; omega)) (by rw [hN]))
      rw [hN] at C3 hc3
      unfold Got at C1 C2 C3
      have MP : Hid (∀ (l : List Tok) (k : Nat) (t : Tok), l[k]? = some t → (l.map gt)[k]? = some (gt t)) := Lib.hid (fun l k t h => by rw [List.getElem?_map, h]; rfl)
      clear K1 K2 hR hQ hN
      generalize lexR s.data.toList = R at *
      generalize lexR u.data.toList = Q at *
      obtain ⟨ts, r1, r2⟩ := R
      obtain ⟨us, o1, o2⟩ := Q
      dsimp only at C1 C2 C3 n1 n2 hA hB hc1 hc2 hc3
      rw [n1] at C1
      rw [n2] at C3 hc3
      rw [n1] at hc1
      generalize us.length = q at *
      have HA := Lib.hid hA
      have HB := Lib.hid hB
      clear hA hB n1 n2
      have hcs := cat3_size s u
      go_enter Tryd.func9, Tryd.ntmps9
      go_wp2_with fail
      refine (C1.out _ HW.out).mono ?_
      rintro e w1 ⟨g1, c1, rfl, T1, hg1, k1⟩
      have D1 := Lib.hid k1
      have W1 := Lib.hid (HW.out.below k1 hG)
      have X1 := Lib.hid T1
      clear k1 T1
      go_wp2_with fail
      refine (C2.out _ W1.out).mono ?_
      rintro e w2 ⟨g2, c2, rfl, T2, hg2, k2⟩
      have D2 := Lib.hid (next0 D1.out k2)
      have W2 := Lib.hid (W1.out.below k2 W1.out.1)
      have X2 := Lib.hid (X1.out.below k2 X1.out.1)
      have Y2 := Lib.hid T2
      clear k2 W1 D1 X1 T2
      go_wp2_with fail
      refine (C3.out _ W2.out).mono ?_
      rintro e w3 ⟨g3, c3, rfl, T3, hg3, k3⟩
      have D3 := Lib.hid (next0 D2.out k3)
      have W3 := Lib.hid (W2.out.below k3 W2.out.1)
      have X3 := Lib.hid (X2.out.below k3 X2.out.1)
      have Y3 := Lib.hid (Y2.out.below k3 Y2.out.1)
      have Z3 := Lib.hid T3
      clear k3 D2 W2 X2 Y2 T3
      have q1 : IntKind.i64.wrap (((p + 1 : Nat) : Int) - 1) = (p : Int) := by
        rw [IntWalk.i64_in _ ⟨by omega, by omega⟩]; omega
      go_wp2_with fail
      go_loopw [14] (fun i wL => ∃ k : Nat, k ≤ p + q ∧ i = .int .i64 k ∧ Hid (Below w3.heap.size w3 wL)) (fun i _ => p + q - (intOf i).toNat)
      case atStart => exact ⟨0, Nat.zero_le _, rfl, Lib.hid (Below.refl _ _)⟩
      case round =>
        obtain ⟨k, hk, rfl, hb⟩ := hrel
        by_cases hlt : k < p
        · obtain ⟨t, ht, hn⟩ := HA.out k hlt
          obtain ⟨x1, x2, x3⟩ := (X3.out.below hb.out X3.out.1).2 k _ (MP.out _ k t ht)
          obtain ⟨z1, z2, z3⟩ := (Z3.out.below hb.out Z3.out.1).2 k _ (MP.out _ k t hn)
          have L1 : g1 < wr.heap.size := (X3.out.below hb.out X3.out.1).1
          have L3 : g3 < wr.heap.size := (Z3.out.below hb.out Z3.out.1).1
          unfold gt at x1 x2 x3 z1 z2 z3
          dsimp only at x1 x2 x3 z1 z2 z3
          clear ht
          simp only [Nat.zero_add] at x1 x2 x3 z1 z2 z3
          generalize e1 : t.1 = a1 at x1 x2 x3
          generalize e2 : bs t.2.1 = a2 at x1 x2 x3
          generalize e3 : t.2.2 = a at x1 x2 x3
          have hlt2 : k < p + q := by omega
          clear L3 z1 z2 z3
          go_wp2_with fail
          have B4 := Lib.hid (hb.out.alloc hb.out.size (.cells #[.int .i64 a1, .string a2, .int .i64 a] 30))
          have H4 := Has.new wr 30 #[.int .i64 a1, .string a2, .int .i64 a]
          obtain ⟨z1, z2, z3⟩ := (Z3.out.below B4.out Z3.out.1).2 k _ (MP.out _ k t hn)
          unfold gt at z1 z2 z3
          dsimp only at z1 z2 z3
          simp only [Nat.zero_add, e1, e2, e3] at z1 z2 z3
          clear x1 x2 x3
          generalize wr.alloc (.cells #[.int .i64 a1, .string a2, .int .i64 a] 30) = wz at *
          generalize wr.heap.size = bz at *
          have y1 := H4.cell 0
          have y2 := H4.cell 1
          have y3 := H4.cell 2
          simp at y1 y2 y3
          clear hn
          go_quiet (fail)
          go_wp2_with fail
          go_roundw
          case rel => exact ⟨k + 1, by omega, by go_num, Lib.hid (by first | exact B4.out.drew | exact below_drewN B4.out _)⟩
          case measure => simp [intOf] <;> omega
        · by_cases hlt2 : k < p + q
          · obtain ⟨j, rfl⟩ : ∃ j, k = p + j := ⟨k - p, by omega⟩
            have hjq : j < q := by omega
            obtain ⟨t, ht, hta, hn⟩ := HB.out j hjq
            obtain ⟨x1, x2, x3⟩ := (Y3.out.below hb.out Y3.out.1).2 j _ (MP.out _ j t ht)
            have L1 : g2 < wr.heap.size := (Y3.out.below hb.out Y3.out.1).1
            unfold gt at x1 x2 x3
            dsimp only at x1 x2 x3
            clear ht
            simp only [Nat.zero_add] at x1 x2 x3
            generalize e1 : t.1 = a1 at x1 x2 x3
            generalize e2 : bs t.2.1 = a2 at x1 x2 x3
            generalize e3 : t.2.2 = a at x1 x2 x3
            have ha : a ≤ 1000 := by omega
            have q2 : IntKind.i64.wrap ((p : Int) + (j : Int) - ((p : Int) + 1)) = (j : Int) - 1 := by
              rw [IntWalk.i64_in _ ⟨by omega, by omega⟩]; omega
            have q3 : IntKind.i64.wrap ((j : Int) - 1 + 1) = (j : Int) := by
              rw [IntWalk.i64_in _ ⟨by omega, by omega⟩]; omega
            have q4 : decide (p + j < p) = false := by simp
            go_wp2_with fail
            have e4 : ((t.2.2 + (s.size + 1) : Nat) : Int) = (a : Int) + (s.size : Int) + 1 := by omega
            have B4 := Lib.hid (hb.out.alloc hb.out.size (.cells #[.int .i64 a1, .string a2, .int .i64 ((a : Int) + (s.size : Int) + 1)] 30))
            have H4 := Has.new wr 30 #[.int .i64 a1, .string a2, .int .i64 ((a : Int) + (s.size : Int) + 1)]
            obtain ⟨z1, z2, z3⟩ := (Z3.out.below B4.out Z3.out.1).2 (p + j) _ (MP.out _ (p + j) _ hn)
            unfold gt at z1 z2 z3
            dsimp only at z1 z2 z3
            rw [e4] at z3
            simp only [Nat.zero_add, e1, e2] at z1 z2 z3
            clear x1 x2 x3
            generalize (a : Int) + (s.size : Int) + 1 = a3 at *
            generalize wr.alloc (.cells #[.int .i64 a1, .string a2, .int .i64 a3] 30) = wz at *
            generalize wr.heap.size = bz at *
            have y1 := H4.cell 0
            have y2 := H4.cell 1
            have y3 := H4.cell 2
            simp at y1 y2 y3
            clear hn
            go_quiet (fail)
            go_wp2_with fail
            go_roundw
            case rel => exact ⟨p + j + 1, by omega, by go_num, Lib.hid (by first | exact B4.out.drew | exact below_drewN B4.out _)⟩
            case measure => simp [intOf] <;> omega
          · obtain rfl : k = p + q := by omega
            go_wp2_with fail
            refine (C5.out _ (W3.out.below hb.out W3.out.1)).mono ?_
            rintro e w5 ⟨rfl, k5⟩
            have D5 := next0 (D3.out.trans (hb.out.mono D3.out.size)) k5
            go_wp2_with fail
            go_ret
            exact ⟨rfl, D5⟩
    · have C1 := Lib.hid (fun w hw => lexed_ok (K1 w hw) hR)
      have C2 := Lib.hid (fun w hw => lexed_err (K2 w hw) hQ)
      have hcnt := lexR_count s.data.toList
      clear K1 K2 hR
      generalize lexR s.data.toList = R at *
      generalize lexR u.data.toList = Q at *
      unfold Got at C1
      obtain ⟨ts, r1, r2⟩ := R
      obtain ⟨us, o1, o2⟩ := Q
      dsimp only at C1 C2 hQ hcnt
      have hr2 : (o2 != 0) = true := by simpa using hQ
      clear hQ
      generalize ts.length = n at *
      go_enter Tryd.func9, Tryd.ntmps9
      go_wp2_with fail
      refine (C1.out _ HW.out).mono ?_
      rintro e w1 ⟨g1, c1, rfl, -, -, k1⟩
      have D1 := Lib.hid k1
      have W1 := Lib.hid (HW.out.below k1 hG)
      clear k1
      go_wp2_with fail
      refine (C2.out _ W1.out).mono ?_
      rintro e w2 ⟨rfl, k2⟩
      have D2 := Lib.hid (next0 D1.out k2)
      have W2 := Lib.hid (W1.out.below k2 W1.out.1)
      clear k2 W1 D1
      go_wp2_with fail
      refine (C5.out _ W2.out).mono ?_
      rintro e w4 ⟨rfl, k4⟩
      have D4 := next0 D2.out k4
      go_wp2_with fail
      go_ret
      exact ⟨rfl, D4⟩
  · have C1 := Lib.hid (fun w hw => lexed_err (K1 w hw) hR)
    have C2 := Lib.hid (fun w hw => any_of u w hw (by omega))
    clear K1 K2
    generalize lexR s.data.toList = R at *
    unfold Any at C2
    obtain ⟨ts, r1, r2⟩ := R
    dsimp only at C1 hR
    have hr2 : (r2 != 0) = true := by simpa using hR
    clear hR
    go_enter Tryd.func9, Tryd.ntmps9
    go_wp2_with fail
    refine (C1.out _ HW.out).mono ?_
    rintro e w1 ⟨rfl, k1⟩
    have D1 := Lib.hid k1
    have W1 := Lib.hid (HW.out.below k1 hG)
    clear k1
    go_wp2_with fail
    refine (C2.out _ W1.out).mono ?_
    rintro e w2 ⟨m2, c2, g2, o1, o2, rfl, k2⟩
    have D2 := Lib.hid (next0 D1.out k2)
    have W2 := Lib.hid (W1.out.below k2 W1.out.1)
    clear k2 W1 D1
    go_wp2_with fail
    refine (C5.out _ W2.out).mono ?_
    rintro e w4 ⟨rfl, k4⟩
    have D4 := next0 D2.out k4
    go_wp2_with fail
    go_ret
    exact ⟨rfl, D4⟩
end LexK3
end Go.Proofs.YtckddlglldfniaaDoor
