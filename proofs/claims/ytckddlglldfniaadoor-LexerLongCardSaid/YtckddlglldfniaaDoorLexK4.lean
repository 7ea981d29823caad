/- LexerLong's walk. -/
import Derived.Test.YtckddlglldfniaaDoorLexU
namespace Go.Proofs.YtckddlglldfniaaDoor
open Go Go.RowKit
namespace LexK4
open Kit LexM LexA LexE LexF LexG LexI LexW LexS LexT LexU
def blank (n : Nat) : List UInt8 := List.replicate n 32
theorem blank_len (n : Nat) : (blank n).length = n := by simp [blank]
theorem blank_succ (n : Nat) : blank (n + 1) = 32 :: blank n := rfl
theorem lex_blanks : ∀ (n k : Nat), lexF (n + 1) k (blank n ++ [97]) = ([(1, [97], k + n), (0, [], k + n + 1)], 0, 0)
  | 0, k => by
    have h := step_ok 0 k [97] (by simp) (1, 1, 0) (by decide +kernel) rfl [(0, [], k + 1)] rfl
    exact h
  | n + 1, k => by
    have hp : pieceF (blank (n + 1) ++ [97]) = (0, 1, 0) := by rw [blank_succ, List.cons_append, piece_cons]; rfl
    have h := step_ok (n + 1) k (blank (n + 1) ++ [97]) (by simp) (0, 1, 0) hp rfl _ (lex_blanks n (k + 1))
    rw [h]
    simp [LexG.tok]
    omega
theorem first : lexR (blank 16383 ++ [97]) = ([(1, [97], 16383), (0, [], 16384)], 0, 0) := by
  have hl : (blank 16383 ++ [97]).length = 16383 + 1 := by rw [List.length_append, blank_len]; rfl
  unfold lexR
  rw [if_neg (by rw [hl]; omega), hl, lex_blanks]
def row (k : Nat) : List Value := List.replicate k (.int .u8 32) ++ List.replicate (16383 - k) (.int .u8 0)
theorem row_get {k : Nat} (h : k < 16383) : (row k)[k]? = some (.int .u8 0) := by
  unfold row
  rw [List.getElem?_append_right (by simp)]
  simp [List.getElem?_replicate]
  omega
theorem row_set {k : Nat} (h : k < 16383) : (row k).set k (.int .u8 32) = row (k + 1) := by
  unfold row
  rw [List.set_append_right _ _ (by simp), List.length_replicate, Nat.sub_self, show 16383 - k = (16383 - (k + 1)) + 1 from by omega, List.replicate_succ, List.set_cons_zero, List.replicate_succ', List.append_assoc]
  rfl
theorem row_end : row 16383 = (blank 16383).map (fun b => Value.int .u8 b.toNat) := by
  unfold row blank
  rw [Nat.sub_self, List.replicate_zero, List.append_nil, List.map_replicate]
  rfl
theorem infoB : (Tryd.prog.info? 5).map (fun i => (i.zero, i.size, i.bytes)) = some (some (.int .u8 0), 1, 1) := by kernel_rfl
theorem make_long (w : World) : ∃ w', (Instr.makeSlice 38 (.int .i64 16383) (.int .i64 16383)).run Tryd.prog w = .ok (.slice (some ⟨w.heap.size, 0, none⟩) 16383 16383) w' ∧ w'.ownsRow w.heap.size 5 1 (.slice (some ⟨w.heap.size, 0, none⟩) 16383 16383) 16383 (row 0) ∧ w.grownBy w' none := by
  obtain ⟨i, hi, hz, hs, hb⟩ := info_parts infoB
  obtain ⟨w', h1, h2, h3⟩ := run_make_full (P := Tryd.prog) w w.heap.size 38 5 i (.int .u8 0) 1 Tryd.underlying38 hi hz hs .i64 .i64 16383 (by rw [hb]; omega) (by unfold maxLen; omega) (Nat.le_refl _)
  refine ⟨w', h1, ?_, h3⟩
  have e : (madeCells (Value.int .u8 0).cells (16383 * 1)).toList = row 0 := toList_madeCells_one _ _
  rw [e] at h2
  exact h2
theorem conv (w : World) (base g n cap : Nat) (l : List UInt8) (hl : l.length = n) (h : w.ownsRow base 5 1 (.slice (some ⟨g, 0, none⟩) n cap) n (l.map (fun b => Value.int .u8 b.toNat))) :
    (convert 38 9 (.slice (some ⟨g, 0, none⟩) n cap)).run Tryd.prog w = .ok (.string ⟨l.toArray⟩) w := by
  subst hl
  refine run_convert_bytes_back w 38 9 5 ⟨g, 0, none⟩ cap l Tryd.underlying38 Tryd.underlying5 Tryd.underlying9 (fun j hj => ?_)
  have e : (⟨g, 0, none⟩ : Addr).add j = ⟨g, j, none⟩ := by simp [Addr.add]; omega
  rw [e, h.cellAt j (by omega), List.getElem?_map, List.getElem?_eq_getElem hj]
  rfl
theorem own_below {w w' : World} {base B : Nat} {e : TypeId} {size n : Nat} {v : Value} {xs : List Value} (h : w.ownsRow base e size v n xs) (hb : Below B w w') (hB : ∀ g, v.ownBlock = some g → g < B) : w'.ownsRow base e size v n xs := by
  refine ⟨h.1, ?_⟩
  rcases h.2 with h | ⟨g, cap, cur, e1, e2, e3, e4⟩
  · exact Or.inl h
  · exact Or.inr ⟨g, cap, cur, e1, e2, (hb.block g (hB g (by rw [e1]; rfl))).trans e3, e4⟩
def vb (n : Nat) : List Value := (blank n).map (fun b => Value.int .u8 b.toNat)
theorem vb_snoc (n : Nat) : vb n ++ [.int .u8 32] = vb (n + 1) := by
  unfold vb blank
  rw [List.replicate_succ', List.map_append]
  rfl
theorem vb_len (n : Nat) : (vb n).length = n := by simp [vb, blank_len]
theorem one_u (x : Int) : ∀ u ∈ [Value.int .u8 x], u.oneCell' = true := by
  intro u hu
  obtain rfl := List.mem_singleton.1 hu
  rfl
theorem last_bytes (n : Nat) (c : Int) (hc : 0 ≤ c ∧ c ≤ 255) : vb n ++ [.int .u8 c] = (blank n ++ [UInt8.ofNat c.toNat]).map (fun b => Value.int .u8 b.toNat) := by
  unfold vb
  rw [List.map_append]
  congr 1
  simp
  omega
theorem long_no (n : Nat) (b : UInt8) (h : 16384 ≤ n) : lexR (blank n ++ [b]) = ([], 0, 2) := by
  unfold lexR
  rw [if_pos (by rw [List.length_append, blank_len]; simp; omega)]
theorem last_call (w : World) (base g cap n : Nat) (c : Int) (hc : 0 ≤ c ∧ c ≤ 255) (hn : 16384 ≤ n) (hn2 : n ≤ 100000) (h : w.ownsRow base 5 1 (.slice (some ⟨g, 0, none⟩) (n + 1) cap) (n + 1) (vb n ++ [.int .u8 c])) :
    ∃ S : ByteArray, (convert 38 9 (.slice (some ⟨g, 0, none⟩) (n + 1) cap)).run Tryd.prog w = .ok (.string S) w ∧ ∀ w, Wd w → Calls Tryd.prog 12 #[.string S] w fun e w' => e = .returned (.tuple #[.slice none 0 0, .int .i64 0, .int .i64 2]) ∧ Below w.heap.size w w' := by
  rw [last_bytes n c hc] at h
  have hl : (blank n ++ [UInt8.ofNat c.toNat]).length = n + 1 := by rw [List.length_append, blank_len]; rfl
  refine ⟨⟨(blank n ++ [UInt8.ofNat c.toNat]).toArray⟩, conv w base g (n + 1) cap _ hl h, fun w hw => ?_⟩
  have e : (⟨(blank n ++ [UInt8.ofNat c.toNat]).toArray⟩ : ByteArray).data.toList = blank n ++ [UInt8.ofNat c.toNat] := rfl
  have hR := long_no n (UInt8.ofNat c.toNat) hn
  have k := lexed_err (lex_any ⟨(blank n ++ [UInt8.ofNat c.toNat]).toArray⟩ w hw (by rw [← len_eq, e, hl]; omega)) (by rw [e, hR]; decide)
  rw [e, hR] at k
  exact k
set_option maxRecDepth 100000 in
set_option maxHeartbeats 6400000 in
theorem long_law (n c : Int) (w : World) (hw : Wd w) (hn : 0 ≤ n ∧ n ≤ 255) (hc : 0 ≤ c ∧ c ≤ 255) :
    Calls Tryd.prog 10 #[.int .u8 n, .int .u8 c] w fun e w' => e = .returned (.bool true) ∧ Below w.heap.size w w' := by
  have C5 := Lib.hid (fun w hw => awake_any w hw)
  have HW := Lib.hid hw
  have hG := hw.1
  clear hw
  obtain ⟨m, rfl⟩ := Int.eq_ofNat_of_zero_le hn.1
  have hm : m ≤ 255 := by omega
  obtain ⟨i0, hi, hz0, hz1, hz2⟩ := info_parts infoB
  obtain ⟨wm, M, O, G⟩ := make_long w
  have O0 := Lib.hid O
  have B0 := Lib.hid ((Below.refl w.heap.size w).grown G (Nat.le_refl _) (fun k h => by cases h))
  clear O G
  have RG := Lib.hid (fun k h => row_get (k := k) h)
  have RS := Lib.hid (fun k h => row_set (k := k) h)
  have GB : w.heap.size < wm.heap.size := by
    have := World.ownsRow.lt O0.out w.heap.size rfl
    omega
  generalize hg0 : w.heap.size = g0 at *
  go_enter Tryd.func10, Tryd.ntmps10
  go_wp2_with fail
  go_loopw [6] (fun i wL => ∃ k : Nat, k ≤ 16383 ∧ i = .int .i64 k ∧ Hid (wL.ownsRow g0 5 1 (.slice (some ⟨g0, 0, none⟩) 16383 16383) 16383 (row k)) ∧ Hid (Below g0 w wL)) (fun i _ => 16383 - (intOf i).toNat)
  case atStart => exact ⟨0, by omega, rfl, O0, B0⟩
  case round =>
    obtain ⟨k, hk, rfl, hO, hB⟩ := hrel
    by_cases hlt : k < 16383
    · have x1 := (hO.out.cellAt k (by omega)).trans (RG.out k hlt)
      have x2 := hO.out.frozenAt k
      have ST := Lib.hid (hO.out.stored k (.int .u8 32))
      go_wp2_with fail
      go_roundw
      case rel =>
        refine ⟨k + 1, by omega, by go_num, ?_, ?_⟩
        · have h := ST.out.1
          rw [RS.out k hlt] at h
          exact Lib.hid h
        · exact Lib.hid (hB.out.grown ST.out.2 (by have := hB.out.size; omega) (fun k h => by cases h; exact Nat.le_refl _))
      case measure => simp [intOf] <;> omega
    · obtain rfl : k = 16383 := by omega
      have O2 := hO.out
      rw [row_end] at O2
      have CV := conv wr g0 g0 16383 16383 (blank 16383) (blank_len _) O2
      have SZ : (⟨(blank 16383).toArray⟩ : ByteArray).size = 16383 := by show Array.size _ = _; simp [blank_len]
      have F1 : lexR (⟨(blank 16383).toArray⟩ ++ ⟨#[97]⟩ : ByteArray).data.toList = ([(1, [97], 16383), (0, [], 16384)], 0, 0) := by
        rw [← first]
        simp
      generalize (⟨(blank 16383).toArray⟩ : ByteArray) = S at CV SZ F1
      have C1 := Lib.hid (fun w hw => lexed_ok (lex_any (S ++ ⟨#[97]⟩) w hw (by rw [ByteArray.size_append, SZ]; decide)) (by rw [F1]))
      rw [F1] at C1
      unfold Got at C1
      dsimp only at C1
      have R0 : Hid (wr.ownsRow g0 5 1 (.slice (some ⟨g0, 0, none⟩) 16383 16383) (16383 + 0) (vb (16383 + 0))) := Lib.hid O2
      have WR := Lib.hid (HW.out.below hB.out hG)
      have GR : g0 < wr.heap.size := (World.ownsRow.lt R0.out g0 rfl).2
      clear O2 hO RG RS
      go_wp2_with fail
      refine (C1.out _ WR.out).mono ?_
      rintro e w1 ⟨g1, c1, rfl, T1, hg1, k1⟩
      have D1 := Lib.hid (hB.out.trans (k1.mono (Nat.le_of_lt GR)))
      have W1 := Lib.hid (WR.out.below k1 WR.out.1)
      have R1 := Lib.hid (own_below R0.out k1 (fun g h => by cases h; exact GR))
      have t1 := (T1.2 0 _ rfl).2.2
      have t2 := (T1.2 1 _ rfl).2.2
      unfold gt at t1 t2
      dsimp only at t1 t2
      simp at t1 t2
      clear k1 T1 R0 CV
      go_wp2_with fail
      have wm8 : IntKind.i64.wrap (m : Int) = (m : Int) := IntWalk.i64_in _ ⟨by omega, by omega⟩
      clear t1 t2 SZ F1 C1
      go_loopw [5, 10] (fun v i wL => ∃ j : Nat, j ≤ m + 1 ∧ i = .int .i64 j ∧ Hid (wL.ownsRow g0 5 1 v (16383 + j) (vb (16383 + j))) ∧ Hid (Below g0 w wL)) (fun _ i _ => m + 1 - (intOf i).toNat)
      case atStart => exact ⟨0, by omega, rfl, R1, D1⟩
      case round =>
        obtain ⟨j, hj, rfl, hO, hB⟩ := hrel
        have GS : g0 ≤ wr.heap.size := by have := hB.out.size; omega
        have A1 : 16383 + j + 1 ≤ maxLen := by unfold maxLen; omega
        have A2 : (16383 + j + 1) * 1 ≤ 140737488355328 := by omega
        by_cases hlt : j ≤ m
        · have A3 : g0 ≤ (wr.alloc (.cells #[.int .u8 32] 5)).heap.size := by simp; omega
          go_wp2_with (at_builtin; refine wpList_append_own _ rfl _ _ 38 rfl g0 5 i0 (.int .u8 0) 1 1 Tryd.underlying38 hi hz0 hz1 hz2 rfl (by decide) _ _ _ rfl (hO.out.alloc _) ⟨wr.heap.size, 0, none⟩ 1 1 [.int .u8 32] rfl rfl (news1 wr _ _) (one_u _) A1 A2 A3 ?_; intro v1 w2 hown1 hgrow1 _)
          have O3 : Hid (w2.ownsRow g0 5 1 v1 (16383 + (j + 1)) (vb (16383 + (j + 1)))) := by
            rw [vb_snoc] at hown1
            exact Lib.hid hown1
          have B3 := Lib.hid ((hB.out.alloc GS _).grown hgrow1 A3 (own_ge hO.out))
          go_roundw
          case rel => exact ⟨j + 1, by omega, by go_num, O3, B3⟩
          case measure => simp [intOf] <;> omega
        · obtain rfl : j = m + 1 := by omega
          have A3 : g0 ≤ (wr.alloc (.cells #[.int .u8 c] 5)).heap.size := by simp; omega
          have LC := Lib.hid (fun w2 g cap h => last_call w2 g0 g cap (16383 + (m + 1)) c hc (by omega) (by omega) h)
          go_wp2_with (at_builtin; refine wpList_append_lies _ rfl _ _ 38 rfl g0 5 i0 (.int .u8 0) 1 1 Tryd.underlying38 hi hz0 hz1 hz2 rfl (by decide) _ _ _ rfl (hO.out.alloc _) ⟨wr.heap.size, 0, none⟩ 1 1 [.int .u8 c] rfl rfl (news1 wr _ _) (one_u _) (by decide) A1 A2 A3 (wr.heap.size + 1) (by simp) ?_; intro g cap w2 hown1 hgrow1 hat hlt1; obtain ⟨S2, CV, C2⟩ := LC.out _ _ _ hown1; have C3 := Lib.hid C2; clear C2 hat)
          have B2 := Lib.hid ((hB.out.alloc GS _).grown hgrow1 A3 (own_ge hO.out))
          have W2 := Lib.hid (HW.out.below B2.out hG)
          refine (C3.out _ W2.out).mono ?_
          rintro e w3 ⟨rfl, k3⟩
          have D3 := Lib.hid (B2.out.trans (k3.mono (by have := B2.out.size; omega)))
          have W3 := Lib.hid (W2.out.below k3 W2.out.1)
          clear k3
          go_wp2_with fail
          refine (C5.out _ W3.out).mono ?_
          rintro e w5 ⟨rfl, k5⟩
          have D5 := D3.out.trans (k5.mono (by have := D3.out.size; omega))
          go_wp2_with fail
          go_ret
          exact ⟨rfl, D5⟩
theorem bounds_u8 {n : Int} (h : (Lit.int .u8 n).wf = true) : 0 ≤ n ∧ n ≤ 255 := by
  simp [Lit.wf, IntKind.min, IntKind.max, IntKind.signed, IntKind.bits] at h
  omega
end LexK4
end Go.Proofs.YtckddlglldfniaaDoor
