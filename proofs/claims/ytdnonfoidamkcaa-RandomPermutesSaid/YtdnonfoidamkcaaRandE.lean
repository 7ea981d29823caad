/- Shuffle of the code. -/
import Derived.Test.YtdnonfoidamkcaaRandD
import Derived.RegionTactic
import Derived.Deep.DeepCutAuto
namespace Go.Proofs.Ytdnonfoidamkcaa
open Go Go.RowKit
namespace RandE
open Kit RandM RandA RandB RandC RandD
theorem info3 : (Try.prog.info? 3).map (fun i => (i.zero, i.size, i.bytes)) = some (some (.int .i64 0), 1, 8) := by kernel_rfl
theorem make_run (w : World) (m : Int) (h0 : 0 ≤ m) (h1 : m ≤ 4096) :
    (Instr.makeSlice 37 (.int .i64 m) (.int .i64 m)).run Try.prog w = .ok (.slice (some ⟨w.heap.size, 0, none⟩) m.toNat m.toNat) (w.alloc (.cells (vals (List.replicate m.toNat 0)) 3)) := by
  obtain ⟨i, hi, hz, hs, hb⟩ := info_parts info3
  have h := run_make (P := Try.prog) w 37 3 i (.int .i64 0) Try.underlying37 hi hz .i64 .i64 m m h0 (Int.le_refl _) (by rw [hb]; omega) (by omega)
  rw [h, hs, Nat.mul_one, made]
theorem size_le (n : Int) : size n ≤ 4096 := by unfold size; split <;> (try split) <;> omega
theorem size_lo {n : Int} (h : n < 0) : size n = 0 := by unfold size; rw [if_pos h]
theorem size_mid {n : Int} (h : 0 ≤ n) (h' : n ≤ 4096) : size n = n.toNat := by unfold size; rw [if_neg (by omega), if_neg (by omega)]
theorem size_hi {n : Int} (h : 4096 < n) : size n = 4096 := by unfold size; rw [if_neg (by omega), if_pos h]
def Shuf (s n : Int) (w : World) (e : Ending) (w' : World) : Prop :=
  ∃ L : Nat, e = .returned (.tuple #[.agg #[.int .u64 (shuffled s (size n)).1], .slice (some ⟨L, 0, none⟩) (size n) (size n)]) ∧ w.heap.size ≤ L ∧ Has w' L (vals (shuffled s (size n)).2) ∧ Below w.heap.size w w'
set_option maxRecDepth 100000 in
set_option maxHeartbeats 3200000 in
theorem shuffle_any (s n : Int) (w : World) :
    Calls Try.prog 20 #[.agg #[.int .u64 s], .int .i64 n] w (Shuf s n w) := by
  have D := Lib.hid (fun a w => drawer_any a w)
  have M := Lib.hid make_run
  have Z := size_le n
  go_enter Try.func20, Try.ntmps20
  go_upto_region 2 with (go_at_call 25; refine (D.out _ _).mono ?_; rintro e w1 ⟨rfl, rfl⟩)
  go_cut [7] (fun s7 wx => s7 = .slice (some ⟨w.heap.size + 1 + 1 + 1, 0, none⟩) (size n) (size n) ∧ Hid (Has wx (w.heap.size + 1 + 1 + 1) (vals (List.replicate (size n) 0))) ∧ Hid (Has wx w.heap.size #[.int .u64 s]) ∧ Hid (Has wx (w.heap.size + 1) #[.int .u64 0]) ∧ Hid (Has wx (w.heap.size + 1 + 1) #[.pointer (some ⟨w.heap.size, 0, none⟩)]) ∧ Hid (Below w.heap.size w wx))
  case first =>
    have hB := Lib.hid ((((below_alloc w (.cells #[.int .u64 s] 24)).alloc (by simp) (.cells #[.int .u64 0] 24)).alloc (by simp; omega) (.cells #[.pointer (some ⟨w.heap.size, 0, none⟩)] 49)))
    have h0 := Lib.hid ((((Has.new w 24 #[.int .u64 s]).alloc (.cells #[.int .u64 0] 24)).alloc (.cells #[.pointer (some ⟨w.heap.size, 0, none⟩)] 49)))
    have h1 := Lib.hid (((Has.new1 w (.cells #[.int .u64 s] 24) 24 #[.int .u64 0])).alloc (.cells #[.pointer (some ⟨w.heap.size, 0, none⟩)] 49))
    have h2 := Lib.hid (Has.new2 w (.cells #[.int .u64 s] 24) (.cells #[.int .u64 0] 24) 49 #[.pointer (some ⟨w.heap.size, 0, none⟩)])
    have h3 := Lib.hid (fun cs => Has.new3 w (.cells #[.int .u64 s] 24) (.cells #[.int .u64 0] 24) (.cells #[.pointer (some ⟨w.heap.size, 0, none⟩)] 49) 3 cs)
    rcases (by omega : n < 0 ∨ (0 ≤ n ∧ n ≤ 4096) ∨ 4096 < n) with h | ⟨h, h'⟩ | h
    · have E := Lib.hid (size_lo h)
      have hmk := fun w => M.out w 0 (by omega) (by omega)
      go_wp2_with fail
      go_meet
      exact ⟨by rw [E.out], by rw [E.out]; exact Lib.hid (h3.out _), Lib.hid (h0.out.alloc _), Lib.hid (h1.out.alloc _), Lib.hid (h2.out.alloc _), Lib.hid (hB.out.alloc (by simp; omega) _)⟩
    · have E := Lib.hid (size_mid h h')
      have hmk := fun w => M.out w n (by omega) (by omega)
      go_wp2_with fail
      go_meet
      exact ⟨by rw [E.out], by rw [E.out]; exact Lib.hid (h3.out _), Lib.hid (h0.out.alloc _), Lib.hid (h1.out.alloc _), Lib.hid (h2.out.alloc _), Lib.hid (hB.out.alloc (by simp; omega) _)⟩
    · have E := Lib.hid (size_hi h)
      have h'' : 0 ≤ n := by omega
      have hmk := fun w => M.out w 4096 (by omega) (by omega)
      go_wp2_with fail
      go_meet
      exact ⟨by rw [E.out], by rw [E.out]; exact Lib.hid (h3.out _), Lib.hid (h0.out.alloc _), Lib.hid (h1.out.alloc _), Lib.hid (h2.out.alloc _), Lib.hid (hB.out.alloc (by simp; omega) _)⟩
  case rest =>
    obtain ⟨rfl, c3, c0, c1, c2, cb⟩ := hcut
    have FIN : Hid (shuffled s (size n) = shuf (size n - 1) s (upTo (size n))) := by unfold shuffled; exact rfl
    have POST : ∀ (w' : World) (e : Ending), e = .returned (.tuple #[.agg #[.int .u64 (shuffled s (size n)).1], .slice (some ⟨w.heap.size + 1 + 1 + 1, 0, none⟩) (size n) (size n)]) → Has w' (w.heap.size + 1 + 1 + 1) (vals (shuffled s (size n)).2) → Below w.heap.size w w' → Shuf s n w e w' :=
      fun w' e h1 h2 h3 => ⟨_, h1, by omega, h2, h3⟩
    have POST' := Lib.hid POST
    clear POST
    generalize hG : w.heap.size = G at *
    generalize size n = m at *
    generalize shuffled s m = R at *
    go_wp2_with fail
    go_loopw [18] (fun s18 wL => ∃ k : Nat, k ≤ m ∧ s18 = .int .i64 k ∧ Hid (Has wL (G + 1 + 1 + 1) (vals (fill m k))) ∧ Hid (Has wL G #[.int .u64 s]) ∧ Hid (Has wL (G + 1) #[.int .u64 0]) ∧ Hid (Has wL (G + 1 + 1) #[.pointer (some ⟨G, 0, none⟩)]) ∧ Hid (Below G w wL)) (fun s18 _ => m - (intOf s18).toNat)
    case atStart => exact ⟨0, Nat.zero_le _, rfl, by rw [fill_zero]; exact c3, c0, c1, c2, cb⟩
    case round =>
      obtain ⟨k, hk, rfl, c3, c0, c1, c2, cb⟩ := hrel
      by_cases hlt : k < m
      · have g1 := Has.get c3.out k (by rw [fill_length m k hk]; exact hlt)
        have g2 := c3.out.free k
        have g3 := c3.out.lt
        have NX := Has.put c3.out k k
        rw [fill_next m k hlt] at NX
        have NX' := Lib.hid NX
        clear NX
        go_wp2_with fail
        go_roundw
        case rel => exact ⟨k + 1, by omega, by go_num, NX', Lib.hid (c0.out.far (by simp <;> omega) _), Lib.hid (c1.out.far (by simp <;> omega) _), Lib.hid (c2.out.far (by simp <;> omega) _), Lib.hid (cb.out.setCell (by simp; omega) _)⟩
        case measure => simp [intOf]; omega
      · obtain rfl : k = m := by omega
        go_wp2_with fail
        rw [fill_all] at c3
        have lk := upTo_length k
        have ST : Hid (shuf ((k : Int) - 1).toNat s (upTo k) = R) := by
          rw [show ((k : Int) - 1).toNat = k - 1 from by omega]; exact FIN.out.symm
        go_loopw [9] (fun s9 wL => ∃ (i : Int) (t : Int) (l : List Int), s9 = .int .i64 i ∧ -1 ≤ i ∧ i < k ∧ l.length = k ∧ Hid (shuf i.toNat t l = R) ∧ Hid (Has wL (G + 1 + 1 + 1) (vals l)) ∧ Hid (Has wL G #[.int .u64 t]) ∧ Hid (Has wL (G + 1) #[.int .u64 0]) ∧ Hid (Has wL (G + 1 + 1) #[.pointer (some ⟨G, 0, none⟩)]) ∧ Hid (Below G w wL)) (fun s9 _ => (intOf s9).toNat)
        case atStart => exact ⟨_, s, upTo k, rfl, by omega, by omega, lk, ST, c3, c0, c1, c2, cb⟩
        case round =>
          obtain ⟨i, t, l, rfl, hi0, hi1, hl, hS, c3, c0, c1, c2, cb⟩ := hrel
          by_cases hpos : 0 < i
          · obtain ⟨j, rfl⟩ : ∃ j : Nat, i = j + 1 := ⟨(i - 1).toNat, by omega⟩
            have hmod := mod_in t ((j : Int) + 1 + 1) (by omega)
            obtain ⟨q, hq⟩ := Int.eq_ofNat_of_zero_le hmod.1
            rw [hq] at hmod
            have NS : Hid (shuf j (stp t) (swp l (j + 1) q) = R) := by
              have h := hS.out
              rw [show ((j : Int) + 1).toNat = j + 1 from by omega, shuf, hq] at h
              exact h
            have DR := Lib.hid (fun w => draw_any (G + 1 + 1) G t ((j : Int) + 1 + 1) q w)
            have HQ := Lib.hid hq
            have HL := Lib.hid hl
            have b1 : (0 : Int) ≤ (q : Int) := by omega
            have b2 : (q : Int) < (k : Int) := by omega
            have b3 : q < k := by omega
            have b4 : j + 1 < k := by omega
            clear hq hS ST FIN hl
            go_wp2_with fail
            refine (DR.out _ c2.out c0.out (by omega) (by omega) HQ.out).mono ?_
            rintro e w1 ⟨rfl, g0, bt⟩
            have g3 := bt.has c3.out (by omega)
            have g1 := Lib.hid (bt.has c1.out (by omega))
            have g2 := Lib.hid (bt.has c2.out (by omega))
            have gb := Lib.hid (bt.below cb.out (by omega) (by omega))
            have x1 := Has.get g3 (j + 1) (by rw [HL.out]; exact b4)
            have x2 := Has.get g3 q (by rw [HL.out]; exact b3)
            have x3 := Has.get (Has.put g3 (j + 1) (l.getD q 0)) q (by rw [List.length_set, HL.out]; exact b3)
            have x4 := g3.free (j + 1)
            have x5 := g3.free q
            have x6 := g3.lt
            have N3 : Hid (Has ((w1.setCell ⟨G + 1 + 1 + 1, j + 1, none⟩ (.int .i64 (l.getD q 0))).setCell ⟨G + 1 + 1 + 1, q, none⟩ (.int .i64 (l.getD (j + 1) 0))).drew (G + 1 + 1 + 1) (vals (swp l (j + 1) q))) := Lib.hid (Has.put (Has.put g3 (j + 1) (l.getD q 0)) q (l.getD (j + 1) 0)).drew
            have NL : Hid ((swp l (j + 1) q).length = k) := by
              rw [swp_length]; exact HL
            have g0' := Lib.hid g0
            generalize swp l (j + 1) q = l2 at *
            have ne : G ≠ G + 1 + 1 + 1 := by omega
            clear bt g0 g3 c0 c1 c2 c3 cb
            generalize l.getD (j + 1) 0 = u1 at *
            generalize l.getD q 0 = u2 at *
            generalize (l.set (j + 1) u2).getD q 0 = u3 at *
            go_wp2_with fail
            go_region
            all_goals
              go_wp2_with fail
              go_roundw
              case rel => exact ⟨j, stp t, l2, by go_num, by omega, by omega, NL.out, NS, N3, Lib.hid ((g0'.out.far (by simp <;> omega) _).far (by simp <;> omega) _).drew, Lib.hid ((g1.out.far (by simp <;> omega) _).far (by simp <;> omega) _).drew, Lib.hid ((g2.out.far (by simp <;> omega) _).far (by simp <;> omega) _).drew, Lib.hid ((gb.out.setCell (by simp <;> omega) _).setCell (by simp <;> omega) _).drew⟩
              case measure => simp [intOf] <;> omega
          · have hz : i.toNat = 0 := by omega
            have h := hS.out
            rw [hz, shuf] at h
            subst h
            have r0 := c0.out.cell 0
            have r1 := c1.out.cell 0
            have r2 := c1.out.free 0
            have r3 := c1.out.lt
            have PO := Lib.hid (fun w' e h1 h2 h3 => POST'.out w' e h1 h2 h3)
            simp only [List.getElem?_toArray, List.getElem?_cons_zero] at r0 r1
            go_wp2_with fail
            refine bodyPost_ret (v := .tuple #[.agg #[.int .u64 t], .slice (some ⟨G + 1 + 1 + 1, 0, none⟩) k k]) (by simp [results, Try.results20, go_sem, r1]) rfl (POST'.out _ _ rfl (c3.out.far (by simp <;> omega) _) (cb.out.setCell (by simp <;> omega) _))
end RandE
end Go.Proofs.Ytdnonfoidamkcaa
