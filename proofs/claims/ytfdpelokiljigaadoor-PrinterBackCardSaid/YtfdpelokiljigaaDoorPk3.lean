/- Texts laid together: LexF; LexG; LexP. Their own heads stand before each. -/
import Derived.Test.YtfdpelokiljigaaDoorPk2
import Derived.OwnWalk
import Derived.Deep.AppendLies
/- The contracts of runKind, kind and piece. Conditions: the string's length, an offset within it, the variable of the reserved words. -/
namespace Go.Proofs.YtfdpelokiljigaaDoor
open Go Go.RowKit
namespace LexF
open Kit LexM LexA LexB LexC LexD LexE
def kErr (k : Int) : Int := if k = 0 then 4 else 0
set_option maxHeartbeats 1600000 in
theorem runKind_any (s : ByteArray) (w : World) (hw : Wd w) (hs : s.size ≤ 140737488355328) :
    Calls Tryd.prog 105 #[.string s] w fun e w' => e = .returned (.tuple #[.int .i64 (kindL s.data.toList), .int .i64 (kErr (kindL s.data.toList))]) ∧ w = w' := by
  have V : Hid (kindL s.data.toList = if resB s.data.toList = true then 5 else if nameL s.data.toList = true then 1 else if isNum s.data.toList = true then 2 else if varL s.data.toList = true then 3 else 0) := rfl
  have C1 := Lib.hid (word_any s w hw)
  have C2 := Lib.hid (fun w => name_any s w hs)
  have C3 := Lib.hid (fun w => num_any s w hs)
  have C4 := Lib.hid (fun w => var_any s w hs)
  generalize kindL s.data.toList = K at *
  generalize resB s.data.toList = b1 at *
  generalize nameL s.data.toList = b2 at *
  generalize isNum s.data.toList = b3 at *
  generalize varL s.data.toList = b4 at *
  generalize numV s.data.toList = nv at *
  cases b1
  case true =>
    have Q : Hid (K = 5) := by rw [V.out]; exact rfl
    clear V
    go_enter Tryd.func105, Tryd.ntmps105
    go_wp2_with fail
    refine (C1.out).mono ?_
    rintro e w' ⟨rfl, rfl⟩
    go_wp2_with fail
    go_ret2
    exact ⟨congrArg Ending.returned (by rw [Q.out]; exact rfl), rfl⟩
  cases b2
  case true =>
    have Q : Hid (K = 1) := by rw [V.out]; exact rfl
    clear V
    go_enter Tryd.func105, Tryd.ntmps105
    go_wp2_with fail
    refine (C1.out).mono ?_
    rintro e w' ⟨rfl, rfl⟩
    go_wp2_with fail
    refine (C2.out _).mono ?_
    rintro e w' ⟨rfl, rfl⟩
    go_wp2_with fail
    go_ret2
    exact ⟨congrArg Ending.returned (by rw [Q.out]; exact rfl), rfl⟩
  cases b3
  case true =>
    have Q : Hid (K = 2) := by rw [V.out]; exact rfl
    clear V
    go_enter Tryd.func105, Tryd.ntmps105
    go_wp2_with fail
    refine (C1.out).mono ?_
    rintro e w' ⟨rfl, rfl⟩
    go_wp2_with fail
    refine (C2.out _).mono ?_
    rintro e w' ⟨rfl, rfl⟩
    go_wp2_with fail
    refine (C3.out _).mono ?_
    rintro e w' ⟨rfl, rfl⟩
    go_wp2_with fail
    go_ret2
    exact ⟨congrArg Ending.returned (by rw [Q.out]; exact rfl), rfl⟩
  cases b4
  case true =>
    have Q : Hid (K = 3) := by rw [V.out]; exact rfl
    clear V
    go_enter Tryd.func105, Tryd.ntmps105
    go_wp2_with fail
    refine (C1.out).mono ?_
    rintro e w' ⟨rfl, rfl⟩
    go_wp2_with fail
    refine (C2.out _).mono ?_
    rintro e w' ⟨rfl, rfl⟩
    go_wp2_with fail
    refine (C3.out _).mono ?_
    rintro e w' ⟨rfl, rfl⟩
    go_wp2_with fail
    refine (C4.out _).mono ?_
    rintro e w' ⟨rfl, rfl⟩
    go_wp2_with fail
    go_ret2
    exact ⟨congrArg Ending.returned (by rw [Q.out]; exact rfl), rfl⟩
  case false =>
    have Q : Hid (K = 0) := by rw [V.out]; exact rfl
    clear V
    go_enter Tryd.func105, Tryd.ntmps105
    go_wp2_with fail
    refine (C1.out).mono ?_
    rintro e w' ⟨rfl, rfl⟩
    go_wp2_with fail
    refine (C2.out _).mono ?_
    rintro e w' ⟨rfl, rfl⟩
    go_wp2_with fail
    refine (C3.out _).mono ?_
    rintro e w' ⟨rfl, rfl⟩
    go_wp2_with fail
    refine (C4.out _).mono ?_
    rintro e w' ⟨rfl, rfl⟩
    go_wp2_with fail
    go_ret2
    exact ⟨congrArg Ending.returned (by rw [Q.out]; exact rfl), rfl⟩
set_option maxHeartbeats 1600000 in
theorem kind_any (s : ByteArray) (w : World) (hs : s.size ≤ 140737488355328) :
    Calls Tryd.prog 98 #[.string s] w fun e w' => e = .returned (.int .i64 (kindL s.data.toList)) ∧ w = w' := by
  have V : Hid (kindL s.data.toList = if resB s.data.toList = true then 5 else if nameL s.data.toList = true then 1 else if isNum s.data.toList = true then 2 else if varL s.data.toList = true then 3 else 0) := rfl
  have C1 := Lib.hid (fun w => rword_any s w)
  have C2 := Lib.hid (fun w => rname_any s w hs)
  have C3 := Lib.hid (fun w => rnum_any s w hs)
  have C4 := Lib.hid (fun w => rvar_any s w hs)
  generalize kindL s.data.toList = K at *
  generalize resB s.data.toList = b1 at *
  generalize nameL s.data.toList = b2 at *
  generalize isNum s.data.toList = b3 at *
  generalize varL s.data.toList = b4 at *
  generalize numV s.data.toList = nv at *
  cases b1
  case true =>
    have Q : Hid (K = 5) := by rw [V.out]; exact rfl
    clear V
    go_enter Tryd.func98, Tryd.ntmps98
    go_wp2_with fail
    refine (C3.out _).mono ?_
    rintro e w' ⟨rfl, rfl⟩
    go_wp2_with fail
    refine (C1.out _).mono ?_
    rintro e w' ⟨rfl, rfl⟩
    go_wp2_with fail
    go_ret
    exact ⟨congrArg Ending.returned (by rw [Q.out]; exact rfl), rfl⟩
  cases b2
  case true =>
    have Q : Hid (K = 1) := by rw [V.out]; exact rfl
    clear V
    go_enter Tryd.func98, Tryd.ntmps98
    go_wp2_with fail
    refine (C3.out _).mono ?_
    rintro e w' ⟨rfl, rfl⟩
    go_wp2_with fail
    refine (C1.out _).mono ?_
    rintro e w' ⟨rfl, rfl⟩
    go_wp2_with fail
    refine (C2.out _).mono ?_
    rintro e w' ⟨rfl, rfl⟩
    go_wp2_with fail
    go_ret
    exact ⟨congrArg Ending.returned (by rw [Q.out]; exact rfl), rfl⟩
  cases b3
  case true =>
    have Q : Hid (K = 2) := by rw [V.out]; exact rfl
    clear V
    go_enter Tryd.func98, Tryd.ntmps98
    go_wp2_with fail
    refine (C3.out _).mono ?_
    rintro e w' ⟨rfl, rfl⟩
    go_wp2_with fail
    refine (C1.out _).mono ?_
    rintro e w' ⟨rfl, rfl⟩
    go_wp2_with fail
    refine (C2.out _).mono ?_
    rintro e w' ⟨rfl, rfl⟩
    go_wp2_with fail
    go_ret
    exact ⟨congrArg Ending.returned (by rw [Q.out]; exact rfl), rfl⟩
  cases b4
  case true =>
    have Q : Hid (K = 3) := by rw [V.out]; exact rfl
    clear V
    go_enter Tryd.func98, Tryd.ntmps98
    go_wp2_with fail
    refine (C3.out _).mono ?_
    rintro e w' ⟨rfl, rfl⟩
    go_wp2_with fail
    refine (C1.out _).mono ?_
    rintro e w' ⟨rfl, rfl⟩
    go_wp2_with fail
    refine (C2.out _).mono ?_
    rintro e w' ⟨rfl, rfl⟩
    go_wp2_with fail
    refine (C4.out _).mono ?_
    rintro e w' ⟨rfl, rfl⟩
    go_wp2_with fail
    go_ret
    exact ⟨congrArg Ending.returned (by rw [Q.out]; exact rfl), rfl⟩
  case false =>
    have Q : Hid (K = 0) := by rw [V.out]; exact rfl
    clear V
    go_enter Tryd.func98, Tryd.ntmps98
    go_wp2_with fail
    refine (C3.out _).mono ?_
    rintro e w' ⟨rfl, rfl⟩
    go_wp2_with fail
    refine (C1.out _).mono ?_
    rintro e w' ⟨rfl, rfl⟩
    go_wp2_with fail
    refine (C2.out _).mono ?_
    rintro e w' ⟨rfl, rfl⟩
    go_wp2_with fail
    refine (C4.out _).mono ?_
    rintro e w' ⟨rfl, rfl⟩
    go_wp2_with fail
    go_ret
    exact ⟨congrArg Ending.returned (by rw [Q.out]; exact rfl), rfl⟩
/-- What begins a list of bytes: kind, length, error. -/
def pieceF (l : List UInt8) : Int × Nat × Int :=
  match l with
  | [] => (0, 0, 1)
  | b :: _ =>
    if blB b.toNat = true then (0, 1, 0) else if ((b.toNat : Int) == 35) = true then (0, spanL ncB l, 0) else if syB b.toNat = true then (4, 1, 0)
    else if ruB b.toNat = true then (kindL (l.take (spanL ruB l)), spanL ruB l, kErr (kindL (l.take (spanL ruB l)))) else (0, 0, 1)
theorem piece_eq (s : ByteArray) (k : Nat) (h : k < s.size) : pieceF (s.data.toList.drop k) =
    if blB s[k].toNat = true then (0, 1, 0) else if ((s[k].toNat : Int) == 35) = true then (0, spanL ncB (s.data.toList.drop k), 0) else if syB s[k].toNat = true then (4, 1, 0)
    else if ruB s[k].toNat = true then (kindL ((s.data.toList.drop k).take (spanL ruB (s.data.toList.drop k))), spanL ruB (s.data.toList.drop k), kErr (kindL ((s.data.toList.drop k).take (spanL ruB (s.data.toList.drop k))))) else (0, 0, 1) := by
  have hl : k < s.data.toList.length := by simpa using h
  have e : s.data.toList.drop k = s[k] :: s.data.toList.drop (k + 1) := List.drop_eq_getElem_cons hl
  rw [e]; rfl
theorem ext_eq (s : ByteArray) (k n : Nat) : (s.extract k (k + n)).data.toList = (s.data.toList.drop k).take n := by
  rw [ByteArray.data_extract, Array.toList_extract, List.extract_eq_take_drop, show k + n - k = n from by omega]
theorem ext_size (s : ByteArray) (k n : Nat) (h : k + n ≤ s.size) : (s.extract k (k + n)).size = n := by
  rw [← len_eq, ext_eq, List.length_take, List.length_drop, len_eq]; omega
set_option maxHeartbeats 1600000 in
theorem piece_any (s : ByteArray) (k : Nat) (w : World) (hw : Wd w) (hs : s.size ≤ 140737488355328) (hk : k < s.size) :
    Calls Tryd.prog 84 #[.string s, .int .i64 k] w fun e w' => e = .returned (.tuple #[.int .i64 (pieceF (s.data.toList.drop k)).1, .int .i64 ((k + (pieceF (s.data.toList.drop k)).2.1 : Nat) : Int), .int .i64 (pieceF (s.data.toList.drop k)).2.2]) ∧ w = w' := by
  have hP := piece_eq s k hk
  have sp1 := spanL_le ncB (s.data.toList.drop k)
  have sp2 := spanL_le ruB (s.data.toList.drop k)
  have hlen : (s.data.toList.drop k).length = s.size - k := by simp
  rw [hlen] at sp1 sp2
  have CL := Lib.hid (fun w => skip_line s k w hs (Nat.le_of_lt hk))
  have CR := Lib.hid (fun w => skip_run s k w hs (Nat.le_of_lt hk))
  have HP := Lib.hid hP
  clear hP hlen
  generalize spanL ncB (s.data.toList.drop k) = n1 at *
  generalize hR : spanL ruB (s.data.toList.drop k) = n2 at *
  generalize pieceF (s.data.toList.drop k) = R at *
  cases c1 : blB s[k].toNat
  case true =>
    have Q : Hid (R = (0, 1, 0)) := by rw [HP.out, c1]; exact rfl
    clear HP
    go_enter Tryd.func84, Tryd.ntmps84
    go_wp2_with ((go_at_call 100; refine (blank_any _ _).mono ?_; rintro e w' ⟨rfl, rfl⟩))
    go_ret3
    exact ⟨congrArg Ending.returned (by rw [Q.out]; exact rfl), rfl⟩
  cases c2 : ((s[k].toNat : Int) == 35)
  case true =>
    have Q : Hid (R = (0, n1, 0)) := by rw [HP.out, c1, c2]; exact rfl
    clear HP
    go_enter Tryd.func84, Tryd.ntmps84
    go_wp2_with fail
    refine (blank_any _ _).mono ?_
    rintro e w' ⟨rfl, rfl⟩
    go_wp2_with fail
    refine (CL.out _).mono ?_
    rintro e w' ⟨rfl, rfl⟩
    go_wp2_with fail
    go_ret3
    exact ⟨congrArg Ending.returned (by rw [Q.out]; exact rfl), rfl⟩
  cases c3 : syB s[k].toNat
  case true =>
    have Q : Hid (R = (4, 1, 0)) := by rw [HP.out, c1, c2, c3]; exact rfl
    clear HP
    go_enter Tryd.func84, Tryd.ntmps84
    go_wp2_with fail
    refine (blank_any _ _).mono ?_
    rintro e w' ⟨rfl, rfl⟩
    go_wp2_with fail
    refine (symbol_any _ _).mono ?_
    rintro e w' ⟨rfl, rfl⟩
    go_wp2_with fail
    go_ret3
    exact ⟨congrArg Ending.returned (by rw [Q.out]; exact rfl), rfl⟩
  cases c4 : ruB s[k].toNat
  case true =>
    have Q : Hid (R = (kindL ((s.data.toList.drop k).take n2), n2, kErr (kindL ((s.data.toList.drop k).take n2)))) := by rw [HP.out, c1, c2, c3, c4]; exact rfl
    clear HP
    have hR' := Lib.hid hR
    clear hR
    have e1 : (k : Int) + (n2 : Int) ≤ (s.size : Int) := by omega
    have e2 : (k : Int) ≤ (k : Int) + (n2 : Int) := by omega
    go_enter Tryd.func84, Tryd.ntmps84
    go_wp2_with fail
    refine (blank_any _ _).mono ?_
    rintro e w' ⟨rfl, rfl⟩
    go_wp2_with fail
    refine (symbol_any _ _).mono ?_
    rintro e w' ⟨rfl, rfl⟩
    go_wp2_with fail
    refine (run_any _ _).mono ?_
    rintro e w' ⟨rfl, rfl⟩
    go_wp2_with fail
    refine (CR.out _).mono ?_
    rintro e w' ⟨rfl, rfl⟩
    go_wp2_with fail
    have RK := runKind_any (s.extract k (k + n2)) w hw (by rw [ext_size s k n2 (by omega)]; omega)
    rw [ext_eq] at RK
    refine RK.mono ?_
    rintro e w' ⟨rfl, rfl⟩
    generalize kindL ((s.data.toList.drop k).take n2) = K at *
    go_wp2_with fail
    go_ret3
    exact ⟨congrArg Ending.returned (by rw [Q.out]; exact rfl), rfl⟩
  case false =>
    have Q : Hid (R = (0, 0, 1)) := by rw [HP.out, c1, c2, c3, c4]; exact rfl
    clear HP
    go_enter Tryd.func84, Tryd.ntmps84
    go_wp2_with fail
    refine (blank_any _ _).mono ?_
    rintro e w' ⟨rfl, rfl⟩
    go_wp2_with fail
    refine (symbol_any _ _).mono ?_
    rintro e w' ⟨rfl, rfl⟩
    go_wp2_with fail
    refine (run_any _ _).mono ?_
    rintro e w' ⟨rfl, rfl⟩
    go_wp2_with fail
    go_ret3
    exact ⟨congrArg Ending.returned (by rw [Q.out]; exact rfl), rfl⟩
end LexF
end Go.Proofs.YtfdpelokiljigaaDoor
/- Lex of the code: the tokens of a text. Conditions: the variable of the reserved words, the text's length fits. -/
namespace Go.Proofs.YtfdpelokiljigaaDoor
open Go Go.RowKit
namespace LexG
open Kit LexM LexA LexB LexC LexD LexE LexF
abbrev Tok := Int × List UInt8 × Nat
def bs (l : List UInt8) : ByteArray := ⟨l.toArray⟩
def tcells (t : Tok) : List Value := [.int .i64 t.1, .string (bs t.2.1), .int .i64 t.2.2]
abbrev Res := List Tok × Nat × Int
def tok (p : Int × Nat × Int) (l : List UInt8) (k : Nat) : List Tok := if p.1 = 0 then [] else [(p.1, l.take p.2.1, k)]
def cat (t : List Tok) (r : Res) : Res := if r.2.2 = 0 then (t ++ r.1, 0, 0) else ([], r.2.1, r.2.2)
def lexF : Nat → Nat → List UInt8 → Res
  | _, k, [] => ([(0, [], k)], 0, 0)
  | 0, k, _ :: _ => ([], k, 1)
  | f + 1, k, b :: l => if (pieceF (b :: l)).2.2 = 0 then cat (tok (pieceF (b :: l)) (b :: l) k) (lexF f (k + (pieceF (b :: l)).2.1) ((b :: l).drop (pieceF (b :: l)).2.1)) else ([], k, (pieceF (b :: l)).2.2)
def lexR (l : List UInt8) : Res := if 16384 < l.length then ([], 0, 2) else lexF l.length 0 l
theorem cat_cat (a b : List Tok) (r : Res) : cat a (cat b r) = cat (a ++ b) r := by
  unfold cat
  by_cases h : r.2.2 = 0
  · simp [h]
  · simp [h]
theorem span_pos (p : Int → Bool) (b : UInt8) (l : List UInt8) (h : p b.toNat = true) : 1 ≤ spanL p (b :: l) := by
  unfold spanL; rw [List.takeWhile_cons, if_pos h]; simp
theorem piece_len (l : List UInt8) (h0 : l ≠ []) (h : (pieceF l).2.2 = 0) : 1 ≤ (pieceF l).2.1 ∧ (pieceF l).2.1 ≤ l.length := by
  cases l with
  | nil => exact absurd rfl h0
  | cons b l =>
    unfold pieceF at h ⊢
    dsimp only at h ⊢
    split
    · simp
    · rename_i hb
      rw [if_neg hb] at h
      split
      · rename_i h35
        refine ⟨span_pos _ _ _ ?_, spanL_le _ _⟩
        have : (b.toNat : Int) = 35 := by simpa using h35
        simp [ncB, this]
      · rename_i h35
        rw [if_neg h35] at h
        split
        · simp
        · rename_i hsy
          rw [if_neg hsy] at h
          split
          · rename_i hru
            exact ⟨span_pos _ _ _ hru, spanL_le _ _⟩
          · rename_i hru
            rw [if_neg hru] at h
            simp at h
theorem lex_step (f k : Nat) (l : List UInt8) (h0 : l ≠ []) (acc : List Tok) : cat acc (lexF (f + 1) k l) = if (pieceF l).2.2 = 0 then cat (acc ++ tok (pieceF l) l k) (lexF f (k + (pieceF l).2.1) (l.drop (pieceF l).2.1)) else ([], k, (pieceF l).2.2) := by
  cases l with
  | nil => exact absurd rfl h0
  | cons b l =>
    rw [lexF]
    by_cases h : (pieceF (b :: l)).2.2 = 0
    · rw [if_pos h, if_pos h, cat_cat]
    · rw [if_neg h, if_neg h]; simp [cat, h]
theorem lex_norm (f k : Nat) (l : List UInt8) : cat [] (lexF f k l) = lexF f k l := by
  cases l with
  | nil => cases f <;> rfl
  | cons b l =>
    cases f with
    | zero => rfl
    | succ f =>
      rw [lexF]
      split
      · rw [cat_cat]; rfl
      · rename_i h; simp [cat, h]
theorem lex_nil (f k : Nat) (acc : List Tok) : cat acc (lexF f k []) = (acc ++ [(0, [], k)], 0, 0) := by cases f <;> rfl
theorem infoT : (Tryd.prog.info? 76).map (fun i => (i.zero, i.size, i.bytes)) = some (some (.agg #[.int .i64 0, .string ⟨#[]⟩, .int .i64 0]), 3, 32) := by kernel_rfl
theorem bs_ext (s : ByteArray) (k n : Nat) : s.extract k (k + n) = bs ((s.data.toList.drop k).take n) := by
  apply Go.WideShapes.bytes_inj
  rw [ext_eq]; rfl
theorem own_ge {w : World} {base : Nat} {e : TypeId} {size : Nat} {v : Value} {n : Nat} {xs : List Value} (h : w.ownsRow base e size v n xs) : ∀ k, v.ownBlock = some k → base ≤ k := by
  intro k hk
  rcases h.2 with ⟨rfl, _⟩ | ⟨g, cap, cur, rfl, hg, _⟩
  · simp [Value.ownBlock] at hk
  · simp [Value.ownBlock] at hk; omega
theorem news3 (w : World) (a b c : Value) (t : TypeId) : ∀ j u, [a, b, c][j]? = some u → (w.alloc (.cells #[a, b, c] t)).cell? ((⟨w.heap.size, 0, none⟩ : Addr).add j) = some u := World.news_of_block (heap_alloc_new w _)
theorem one3 (a c : Int) (b : ByteArray) : ∀ u ∈ [Value.int .i64 a, .string b, .int .i64 c], u.oneCell' = true := by
  intro u hu
  simp at hu
  rcases hu with rfl | rfl | rfl <;> rfl
theorem flat_snoc (l : List Tok) (t : Tok) : (l ++ [t]).flatMap tcells = l.flatMap tcells ++ tcells t := by simp
def Lexed (w : World) (R : Res) (e : Ending) (w' : World) : Prop :=
  (R.2.2 ≠ 0 ∧ e = .returned (.tuple #[.slice none 0 0, .int .i64 R.2.1, .int .i64 R.2.2]) ∧ Below w.heap.size w w') ∨
  (R.2.2 = 0 ∧ ∃ g cap : Nat, e = .returned (.tuple #[.slice (some ⟨g, 0, none⟩) R.1.length cap, .int .i64 0, .int .i64 0]) ∧ w'.ownsRow w.heap.size 76 3 (.slice (some ⟨g, 0, none⟩) R.1.length cap) R.1.length (R.1.flatMap tcells) ∧ w.heap.size ≤ g ∧ g < w'.heap.size ∧ Below w.heap.size w w')
theorem flat_len (l : List Tok) : (l.flatMap tcells).length = l.length * 3 := by
  induction l with
  | nil => rfl
  | cons a l ih => simp [tcells] at ih ⊢; omega
set_option maxRecDepth 100000 in
set_option maxHeartbeats 3200000 in
theorem lex_any (s : ByteArray) (w : World) (hw : Wd w) (hs : s.size ≤ 140737488355328) :
    Calls Tryd.prog 58 #[.string s] w (Lexed w (lexR s.data.toList)) := by
  by_cases hlong : 16384 < s.size
  · have V : Hid (lexR s.data.toList = ([], 0, 2)) := by unfold lexR; rw [len_eq, if_pos hlong]; exact rfl
    generalize lexR s.data.toList = R at *
    go_enter Tryd.func58, Tryd.ntmps58
    go_wp2_with fail
    go_ret3
    rw [V.out]
    exact Or.inl ⟨by decide, rfl, Below.refl _ _⟩
  have V : Hid (cat [] (lexF s.size 0 (s.data.toList.drop 0)) = lexR s.data.toList) := by
    unfold lexR
    rw [len_eq, if_neg hlong, List.drop_zero, lex_norm]; exact rfl
  generalize lexR s.data.toList = R at *
  obtain ⟨i0, hi, hz0, hz1, hz2⟩ := info_parts infoT
  have PC := Lib.hid (fun k w hw hk => piece_any s k w hw hs hk)
  have HW := Lib.hid hw
  have hG := hw.1
  clear hw
  go_enter Tryd.func58, Tryd.ntmps58
  go_wp2_with fail
  go_loopw [5, 6] (fun v i wL => ∃ (k : Nat) (acc : List Tok) (f : Nat), k ≤ s.size ∧ i = .int .i64 k ∧ acc.length ≤ k ∧ s.size - k ≤ f ∧ Hid (wL.ownsRow w.heap.size 76 3 v acc.length (acc.flatMap tcells)) ∧ Hid (cat acc (lexF f k (s.data.toList.drop k)) = R) ∧ Hid (Below w.heap.size w wL)) (fun _ i _ => s.size - (intOf i).toNat)
  case atStart => exact ⟨0, [], s.size, Nat.zero_le _, rfl, Nat.le_refl _, by omega, Lib.hid ⟨rfl, Or.inl ⟨rfl, rfl⟩⟩, V, Lib.hid (Below.refl _ _)⟩
  case round =>
    obtain ⟨k, acc, f, hk, rfl, hacc, hf, hO, hR, hB⟩ := hrel
    by_cases hlt : k < s.size
    · obtain ⟨f', rfl⟩ : ∃ f', f = f' + 1 := ⟨f - 1, by omega⟩
      have hne : s.data.toList.drop k ≠ [] := by
        intro h; have := congrArg List.length h; simp at this; omega
      have hst := lex_step f' k (s.data.toList.drop k) hne acc
      have hpl := piece_len (s.data.toList.drop k) hne
      have hdl : (s.data.toList.drop k).length = s.size - k := by simp
      rw [hR.out] at hst
      rw [List.drop_drop] at hst
      rw [hdl] at hpl
      have C := Lib.hid (PC.out k wr (HW.out.below hB.out hG) hlt)
      have BS := Lib.hid (fun n => bs_ext s k n)
      have TK : Hid (tok (pieceF (s.data.toList.drop k)) (s.data.toList.drop k) k = if (pieceF (s.data.toList.drop k)).1 = 0 then [] else [((pieceF (s.data.toList.drop k)).1, (s.data.toList.drop k).take (pieceF (s.data.toList.drop k)).2.1, k)]) := rfl
      generalize tok (pieceF (s.data.toList.drop k)) (s.data.toList.drop k) k = tk at *
      generalize pieceF (s.data.toList.drop k) = p at *
      obtain ⟨pk, pn, pe⟩ := p
      dsimp only at hst hpl C TK
      have HST := Lib.hid hst
      have HPL := Lib.hid hpl
      clear hst hpl hne hdl hR
      by_cases he : pe = 0
      · subst he
        have hN := HST.out
        rw [if_pos rfl] at hN
        obtain ⟨l1, l2⟩ := HPL.out rfl
        have HN := Lib.hid hN.symm
        clear hN HST HPL
        by_cases hk0 : pk = 0
        · subst hk0
          have T := TK.out
          rw [if_pos rfl] at T
          subst T
          have HN' := HN.out
          rw [List.append_nil] at HN'
          have HN2 := Lib.hid HN'
          clear HN' HN
          go_wp2_with fail
          refine C.out.mono ?_
          rintro e w' ⟨rfl, rfl⟩
          go_wp2_with fail
          go_roundw
          case rel => exact ⟨k + pn, acc, f', by omega, by go_num, by omega, by omega, hO, HN2, hB⟩
          case measure => simp [intOf]; omega
        · have T := TK.out
          rw [if_neg hk0] at T
          subst T
          have hk1 : (pk != 0) = true := by simpa using hk0
          have e1 : (k : Int) + (pn : Int) ≤ (s.size : Int) := by omega
          have e2 : (k : Int) ≤ (k : Int) + (pn : Int) := by omega
          go_wp2_with fail
          refine C.out.mono ?_
          rintro e w' ⟨rfl, rfl⟩
          have A1 : acc.length + 1 ≤ maxLen := by unfold maxLen; omega
          have A2 : (acc.length + 1) * 32 ≤ 140737488355328 := by omega
          have A3 : w.heap.size ≤ (wr.alloc (.cells #[.int .i64 pk, .string (s.extract k (k + pn)), .int .i64 k] 76)).heap.size := by have := hB.out.size; simp; omega
          go_wp2_with (at_builtin; refine wpList_append_own _ rfl _ _ 72 rfl w.heap.size 76 i0 (.agg #[.int .i64 0, .string ⟨#[]⟩, .int .i64 0]) 3 32 Tryd.underlying72 hi hz0 hz1 hz2 rfl (by decide) _ _ _ rfl (hO.out.alloc _) ⟨wr.heap.size, 0, none⟩ 1 1 [.int .i64 pk, .string (s.extract k (k + pn)), .int .i64 k] rfl rfl (news3 wr _ _ _ _) (one3 _ _ _) A1 A2 A3 ?_; intro v1 w1 hown1 hgrow1 _)
          have O2 : Hid (w1.ownsRow w.heap.size 76 3 v1 (acc ++ [(pk, (s.data.toList.drop k).take pn, k)]).length ((acc ++ [(pk, (s.data.toList.drop k).take pn, k)]).flatMap tcells)) := by
            rw [flat_snoc, List.length_append]
            rw [BS.out] at hown1
            exact hown1
          have B2 := Lib.hid ((hB.out.alloc hB.out.size _).grown hgrow1 A3 (own_ge hO.out))
          go_roundw
          case rel => exact ⟨k + pn, acc ++ [(pk, (s.data.toList.drop k).take pn, k)], f', by omega, by go_num, by simp; omega, by omega, O2, HN, B2⟩
          case measure => simp [intOf]; omega
      · have hN := HST.out
        rw [if_neg he] at hN
        have he1 : (pe != 0) = true := by simpa using he
        have HN := Lib.hid hN
        have HE := Lib.hid he
        clear hN HST HPL he
        go_wp2_with fail
        refine C.out.mono ?_
        rintro e w' ⟨rfl, rfl⟩
        go_wp2_with fail
        go_ret3
        rw [HN.out]
        exact Or.inl ⟨HE.out, rfl, hB.out⟩
    · obtain rfl : k = s.size := by omega
      have HN := hR.out
      rw [List.drop_eq_nil_of_le (by simp), lex_nil] at HN
      have HN2 := Lib.hid HN.symm
      clear HN hR
      have A1 : acc.length + 1 ≤ maxLen := by unfold maxLen; omega
      have A2 : (acc.length + 1) * 32 ≤ 140737488355328 := by omega
      have A3 : w.heap.size ≤ (wr.alloc (.cells #[.int .i64 0, .string ⟨#[]⟩, .int .i64 s.size] 76)).heap.size := by have := hB.out.size; simp; omega
      go_wp2_with (at_builtin; refine wpList_append_lies _ rfl _ _ 72 rfl w.heap.size 76 i0 (.agg #[.int .i64 0, .string ⟨#[]⟩, .int .i64 0]) 3 32 Tryd.underlying72 hi hz0 hz1 hz2 rfl (by decide) _ _ _ rfl (hO.out.alloc _) ⟨wr.heap.size, 0, none⟩ 1 1 [.int .i64 0, .string ⟨#[]⟩, .int .i64 s.size] rfl rfl (news3 wr _ _ _ _) (one3 _ _ _) (by decide) A1 A2 A3 (wr.heap.size + 1) (by simp) ?_; intro g cap w1 hown1 hgrow1 hat hlt1)
      have B2 := (hB.out.alloc hB.out.size _).grown hgrow1 A3 (own_ge hO.out)
      have hgg : w.heap.size ≤ g := own_ge hown1 g rfl
      go_ret3
      rw [HN2.out]
      refine Or.inr ⟨rfl, g, cap, ?_, ?_, hgg, hlt1, B2⟩
      · rw [List.length_append]; exact rfl
      · rw [flat_snoc, List.length_append]; exact hown1
end LexG
end Go.Proofs.YtfdpelokiljigaaDoor
/- Tokens in memory, and Lex by its outcome (for a seat without layer 4's laws). No conditions. -/
namespace Go.Proofs.YtfdpelokiljigaaDoor
open Go Go.RowKit
namespace LexP
open Kit LexM LexE LexF LexG
abbrev GTok := Int × ByteArray × Int
/-- The tokens ts lie at an address, three cells each. -/
def Toks (w : World) (g off : Nat) (ts : List GTok) : Prop := g < w.heap.size ∧ ∀ i t, ts[i]? = some t → w.cell? ⟨g, off + i * 3, none⟩ = some (.int .i64 t.1) ∧ w.cell? ⟨g, off + i * 3 + 1, none⟩ = some (.string t.2.1) ∧ w.cell? ⟨g, off + i * 3 + 2, none⟩ = some (.int .i64 t.2.2)
theorem Toks.below {w w' : World} {g off B : Nat} {ts : List GTok} (h : Toks w g off ts) (hb : Below B w w') (hB : g < B) : Toks w' g off ts :=
  ⟨Nat.lt_of_lt_of_le h.1 hb.size, fun i t hi => ⟨(hb.cell (p := ⟨g, off + i * 3, none⟩) hB).trans (h.2 i t hi).1, (hb.cell (p := ⟨g, off + i * 3 + 1, none⟩) hB).trans (h.2 i t hi).2.1, (hb.cell (p := ⟨g, off + i * 3 + 2, none⟩) hB).trans (h.2 i t hi).2.2⟩⟩
def gt (t : Tok) : GTok := (t.1, bs t.2.1, (t.2.2 : Int))
theorem flat_get : ∀ (ts : List Tok) (i : Nat) (t : Tok), ts[i]? = some t → (ts.flatMap tcells)[i * 3]? = some (.int .i64 t.1) ∧ (ts.flatMap tcells)[i * 3 + 1]? = some (.string (bs t.2.1)) ∧ (ts.flatMap tcells)[i * 3 + 2]? = some (.int .i64 t.2.2)
  | [], i, t, h => by simp at h
  | a :: ts, 0, t, h => by
    simp at h
    subst h
    exact ⟨rfl, rfl, rfl⟩
  | a :: ts, i + 1, t, h => by
    have ih := flat_get ts i t (by simpa using h)
    have e : (i + 1) * 3 = i * 3 + 3 := by omega
    rw [e]
    exact ih
theorem toks_of {w : World} {B g cap : Nat} {ts : List Tok} (h : w.ownsRow B 76 3 (.slice (some ⟨g, 0, none⟩) ts.length cap) ts.length (ts.flatMap tcells)) (hg : g < w.heap.size) : Toks w g 0 (ts.map gt) := by
  refine ⟨hg, fun i t hi => ?_⟩
  rw [List.getElem?_map] at hi
  obtain ⟨u, hu, rfl⟩ := Option.map_eq_some_iff.1 hi
  have hlt : i < ts.length := (List.getElem?_eq_some_iff.1 hu).1
  obtain ⟨f1, f2, f3⟩ := flat_get ts i u hu
  rw [Nat.zero_add]
  exact ⟨(h.cellAt _ (by omega)).trans f1, (h.cellAt _ (by omega)).trans f2, (h.cellAt _ (by omega)).trans f3⟩
theorem lexed_err {f : FuncId} {s : ByteArray} {w : World} {R : Res} (h : Calls Tryd.prog f #[.string s] w (Lexed w R)) (hR : R.2.2 ≠ 0) :
    Calls Tryd.prog f #[.string s] w fun e w' => e = .returned (.tuple #[.slice none 0 0, .int .i64 R.2.1, .int .i64 R.2.2]) ∧ Below w.heap.size w w' :=
  h.mono fun e w' h => by
    rcases h with ⟨_, he, hb⟩ | ⟨h, _⟩
    · exact ⟨he, hb⟩
    · exact absurd h hR
def Got (R : Res) (w : World) (e : Ending) (w' : World) : Prop := ∃ g cap : Nat, e = .returned (.tuple #[.slice (some ⟨g, 0, none⟩) R.1.length cap, .int .i64 0, .int .i64 0]) ∧ Toks w' g 0 (R.1.map gt) ∧ w.heap.size ≤ g ∧ Below w.heap.size w w'
theorem lexed_ok {f : FuncId} {s : ByteArray} {w : World} {R : Res} (h : Calls Tryd.prog f #[.string s] w (Lexed w R)) (hR : R.2.2 = 0) :
    Calls Tryd.prog f #[.string s] w (Got R w) :=
  h.mono fun e w' h => by
    rcases h with ⟨h, _⟩ | ⟨_, g, cap, he, ho, hg, hl, hb⟩
    · exact absurd hR h
    · exact ⟨g, cap, he, toks_of ho hl, hg, hb⟩
theorem lexF_count : ∀ (f k : Nat) (l : List UInt8), (lexF f k l).1.length ≤ l.length + 1
  | 0, _, [] => by simp [lexF]
  | _ + 1, _, [] => by simp [lexF]
  | 0, _, _ :: _ => by simp [lexF]
  | f + 1, k, b :: l => by
    rw [lexF]
    by_cases h : (pieceF (b :: l)).2.2 = 0
    · rw [if_pos h]
      have ih := lexF_count f (k + (pieceF (b :: l)).2.1) ((b :: l).drop (pieceF (b :: l)).2.1)
      have hp := piece_len (b :: l) (by simp) h
      rw [List.length_drop] at ih
      have ht : (LexG.tok (pieceF (b :: l)) (b :: l) k).length ≤ 1 := by unfold LexG.tok; split <;> simp
      unfold cat
      split
      · rw [List.length_append]; omega
      · simp
    · rw [if_neg h]; simp
theorem lexR_count (l : List UInt8) : (lexR l).1.length ≤ 16385 := by
  unfold lexR
  split
  · simp
  · have := lexF_count l.length 0 l; omega
end LexP
end Go.Proofs.YtfdpelokiljigaaDoor
