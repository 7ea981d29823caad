/- The walks of RandomPermutes and RandomBounds. -/
import Derived.Test.YtdnonfoidamkcaaRandL2
namespace Go.Proofs.Ytdnonfoidamkcaa
open Go Go.RowKit
namespace RandL4
open Kit RandM RandA RandB RandC RandD RandE RandF RandG RandH RandJ RandW RandL1 RandL2
theorem upTo_nodup (m : Nat) : (upTo m).Nodup := by
  unfold upTo
  have h := List.nodup_range (n := m)
  unfold List.Nodup at h ⊢
  rw [List.pairwise_map]
  exact h.imp (fun hne e => hne (Int.ofNat.inj e))
theorem upTo_mem {m : Nat} {x : Int} (h : x ∈ upTo m) : ∃ q : Nat, x = q ∧ q < m := by
  unfold upTo at h
  obtain ⟨q, hq, rfl⟩ := List.mem_map.1 h
  exact ⟨q, rfl, List.mem_range.1 hq⟩
theorem shuffled_perm (s : Int) (m : Nat) : (shuffled s m).2.Perm (upTo m) := by
  unfold shuffled
  by_cases h : m = 0
  · subst h; exact List.Perm.refl _
  · exact shuf_perm _ _ _ (by rw [upTo_length]; omega)
def marks (l : List Int) (i : Nat) : List Bool := (List.range l.length).map (fun j : Nat => decide ((j : Int) ∈ l.take i))
def bvals (l : List Bool) : Array Value := (l.map Value.bool).toArray
theorem made_b (m : Nat) : madeCells (Value.bool false).cells m = bvals (List.replicate m false) := by
  unfold madeCells bvals
  apply Array.ext
  · simp
  · intro i h1 h2
    simp [Value.cells, Nat.mod_one]
theorem marks_zero (l : List Int) : marks l 0 = List.replicate l.length false := by
  unfold marks
  apply List.ext_getElem
  · simp
  · intro i h1 h2; simp
theorem marks_get (l : List Int) (i q : Nat) (h : q < l.length) : (bvals (marks l i))[q]? = some (.bool (decide ((q : Int) ∈ l.take i))) := by
  simp [bvals, marks, h]
theorem marks_next (l : List Int) (i q : Nat) (h : l[i]? = some (q : Int)) : (bvals (marks l i)).setIfInBounds q (.bool true) = bvals (marks l (i + 1)) := by
  have e : (marks l i).set q true = marks l (i + 1) := by
    apply List.ext_getElem
    · simp [marks]
    · intro j h1 h2
      have hj : j < l.length := by simpa [marks] using h2
      rw [List.getElem_set]
      by_cases c : q = j
      · subst c
        simp [marks, List.take_add_one, h]
      · have c' : ¬ (j : Int) = (q : Int) := by omega
        simp [marks, List.take_add_one, h, c, c']
  rw [← e]
  simp [bvals, List.map_set]
theorem nodup_take {l : List Int} (hn : l.Nodup) (i : Nat) (x : Int) (h : l[i]? = some x) : decide (x ∈ l.take i) = false := by
  have hi : i < l.length := (List.getElem?_eq_some_iff.1 h).1
  have hx : l[i] = x := (List.getElem?_eq_some_iff.1 h).2
  rw [decide_eq_false_iff_not]
  intro hm
  obtain ⟨j, hj, e⟩ := List.mem_iff_getElem.1 hm
  rw [List.getElem_take] at e
  have hj' : j < i := by rw [List.length_take] at hj; omega
  have hlt : j < l.length := by omega
  have := (List.getElem_inj (h₀ := hlt) (h₁ := hi) hn).1 (e.trans hx.symm)
  omega
theorem info4 : (Try.prog.info? 4).map (fun i => (i.zero, i.size, i.bytes)) = some (some (.bool false), 1, 1) := by kernel_rfl
theorem make_runb (w : World) (m : Nat) (h1 : m ≤ 4096) :
    (Instr.makeSlice 43 (.int .i64 m) (.int .i64 m)).run Try.prog w = .ok (.slice (some ⟨w.heap.size, 0, none⟩) m m) (w.alloc (.cells (bvals (List.replicate m false)) 4)) := by
  obtain ⟨i, hi, hz, hs, hb⟩ := info_parts info4
  have h := run_make (P := Try.prog) w 43 4 i (.bool false) Try.underlying43 hi hz .i64 .i64 m m (by omega) (Int.le_refl _) (by rw [hb]; omega) (by omega)
  rw [h, hs, Nat.mul_one, made_b, Int.toNat_natCast]
set_option maxRecDepth 100000 in
set_option maxHeartbeats 3200000 in
theorem permutes (s n : Int) (w : World) :
    Calls Try.prog 8 #[.int .u64 s, .int .i64 n] w fun e w' => e = .returned (.bool true) ∧ Below w.heap.size w w' := by
  have C1 := Lib.hid (fun w => shuffle_any s n w)
  have C5 := Lib.hid awake_any
  have MK := Lib.hid make_runb
  have hz := size_le n
  go_enter Try.func8, Try.ntmps8
  go_upto_region 1 with fail
  go_cut [5] (fun s5 wx => s5 = .int .i64 (size n) ∧ w = wx)
  case first =>
    rcases (by omega : n < 0 ∨ (0 ≤ n ∧ n ≤ 4096) ∨ 4096 < n) with h | ⟨h, h'⟩ | h
    · have E := Lib.hid (size_lo h)
      go_wp2_with fail
      go_meet
      exact ⟨by rw [E.out]; rfl, rfl⟩
    · have E := Lib.hid (size_mid h h')
      go_wp2_with fail
      go_meet
      exact ⟨by rw [E.out, show ((n.toNat : Nat) : Int) = n from by omega], rfl⟩
    · have E := Lib.hid (size_hi h)
      have h'' : 0 ≤ n := by omega
      go_wp2_with fail
      go_meet
      exact ⟨by rw [E.out]; rfl, rfl⟩
  case rest =>
    obtain ⟨rfl, rfl⟩ := hcut
    have hl := shuffled_length s (size n)
    have hp := shuffled_perm s (size n)
    unfold Shuf at C1
    generalize shuffled s (size n) = R at *
    generalize size n = m at *
    obtain ⟨S, l⟩ := R
    dsimp only at C1 hl hp
    have ND : Hid l.Nodup := Lib.hid (hp.nodup_iff.2 (upTo_nodup m))
    have ME : Hid (∀ x ∈ l, ∃ q : Nat, x = q ∧ q < m) := Lib.hid (fun x hx => upTo_mem (hp.mem_iff.1 hx))
    have mk := fun W => MK.out W m hz
    have HL := Lib.hid hl
    clear hp MK hl
    go_wp2_with fail
    refine (C1.out _).mono ?_
    rintro e w1 ⟨L, rfl, hL, a1, k1⟩
    have V1 := Lib.hid (a1.alloc (.cells #[.int .u64 S] 24))
    have D := Lib.hid (next0 k1 (below_alloc w1 (.cells #[.int .u64 S] 24)))
    clear k1 a1 C1
    generalize hw2 : w1.alloc (.cells #[.int .u64 S] 24) = w2 at V1 D
    have hs2 : w1.heap.size + 1 = w2.heap.size := by subst hw2; simp
    go_wp2_with fail
    clear hw2 hs2
    have X1 := Lib.hid (V1.out.alloc (.cells (bvals (List.replicate m false)) 4))
    have X2 : Hid (Has (w2.alloc (.cells (bvals (List.replicate m false)) 4)) w2.heap.size (bvals (marks l 0))) := by
      rw [marks_zero, HL.out]; exact Lib.hid (Has.new w2 _ _)
    have X3 := Lib.hid (next0 D.out (below_alloc w2 (.cells (bvals (List.replicate m false)) 4)))
    have hne : L ≠ w2.heap.size := by have := V1.out.lt; omega
    have hSl : w.heap.size ≤ w2.heap.size := D.out.size
    clear V1 D mk
    generalize w2.heap.size = G at *
    generalize w2.alloc (.cells (bvals (List.replicate m false)) 4) = w3 at *
    go_loopw [9] (fun i wL => ∃ k : Nat, k ≤ m ∧ i = .int .i64 k ∧ Hid (Has wL L (vals l)) ∧ Hid (Has wL G (bvals (marks l k))) ∧ Hid (Below w.heap.size w wL)) (fun i _ => m - (intOf i).toNat)
    case atStart => exact ⟨0, Nat.zero_le _, rfl, X1, X2, X3⟩
    case round =>
      obtain ⟨k, hk, rfl, X1, X2, X3⟩ := hrel
      by_cases hlt : k < m
      · have hkl : k < l.length := by rw [HL.out]; exact hlt
        obtain ⟨q, hq, hqm⟩ := ME.out l[k] (by simp)
        have hx : l[k]? = some (q : Int) := by rw [← hq]; simp
        have c1 := Has.get X1.out k hkl
        rw [show l.getD k 0 = (q : Int) from by simp [List.getD, hx]] at c1
        have c2 := (X2.out.cell q).trans (marks_get l k q (by rw [HL.out]; exact hqm))
        rw [nodup_take ND.out k q hx] at c2
        have c3 := X2.out.free q
        have c4 := X2.out.lt
        have NX := X2.out.set q (.bool true)
        rw [marks_next l k q hx] at NX
        have NX' := Lib.hid NX
        have b1 : (0 : Int) ≤ (q : Int) := by omega
        have b2 : (q : Int) < (m : Int) := by omega
        clear NX hx hq hkl
        go_wp2_with fail
        go_roundw
        case rel => exact ⟨k + 1, by omega, by go_num, Lib.hid (X1.out.far (by simp <;> omega) _), NX', Lib.hid (X3.out.setCell (by simp <;> omega) _)⟩
        case measure => simp [intOf] <;> omega
      · obtain rfl : k = m := by omega
        go_wp2_with fail
        refine (C5.out _).mono ?_
        rintro e w4 ⟨rfl, k4⟩
        have D4 := next0 X3.out k4
        go_wp2_with fail
        go_ret
        exact ⟨rfl, D4⟩
end RandL4
end Go.Proofs.Ytdnonfoidamkcaa
