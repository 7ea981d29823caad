/- Shuffle of the reference. -/
import Derived.Test.YtdnonfoidamkcaaRandE
namespace Go.Proofs.Ytdnonfoidamkcaa
open Go Go.RowKit
namespace RandF
open Kit RandM RandA RandB RandC RandD RandE
set_option maxRecDepth 100000 in
set_option maxHeartbeats 3200000 in
theorem rshuffle_any (s n : Int) (w : World) :
    Calls Try.prog 21 #[.agg #[.int .u64 s], .int .i64 n] w (Shuf s n w) := by
  have M := Lib.hid make_run
  have Z := size_le n
  go_enter Try.func21, Try.ntmps21
  go_upto_region 1 with fail
  have hB := Lib.hid (((below_alloc w (.cells #[.int .u64 s] 24)).alloc (by simp) (.cells #[.int .u64 0] 24)))
  have h0 := Lib.hid (((Has.new w 24 #[.int .u64 s]).alloc (.cells #[.int .u64 0] 24)))
  have h1 := Lib.hid (((Has.new1 w (.cells #[.int .u64 s] 24) 24 #[.int .u64 0])))
  have h2 := Lib.hid (fun cs => Has.new2 w (.cells #[.int .u64 s] 24) (.cells #[.int .u64 0] 24) 3 cs)
  go_cut [6] (fun s6 wx => s6 = .int .i64 (size n) ∧ wx = ((w.alloc (.cells #[.int .u64 s] 24)).alloc (.cells #[.int .u64 0] 24)))
  case first =>
    rcases (by omega : n < 0 ∨ (0 ≤ n ∧ n ≤ 4096) ∨ 4096 < n) with h | ⟨h, h'⟩ | h
    · have E := Lib.hid (size_lo h)
      go_wp2_with fail
      go_meet
      exact ⟨by rw [E.out]; rfl, rfl⟩
    · have E := Lib.hid (size_mid h h')
      go_wp2_with fail
      go_meet
      exact ⟨by rw [E.out, show ((n.toNat : Nat) : Int) = n from by omega], rfl⟩
    · have E := Lib.hid (size_hi h)
      have h'' : 0 ≤ n := by omega
      go_wp2_with fail
      go_meet
      exact ⟨by rw [E.out]; rfl, rfl⟩
  case rest =>
    obtain ⟨rfl, rfl⟩ := hcut
    have FIN : Hid (shuffled s (size n) = shuf (size n - 1) s (upTo (size n))) := by unfold shuffled; exact rfl
    have POST : ∀ (w' : World) (e : Ending), e = .returned (.tuple #[.agg #[.int .u64 (shuffled s (size n)).1], .slice (some ⟨w.heap.size + 1 + 1, 0, none⟩) (size n) (size n)]) → Has w' (w.heap.size + 1 + 1) (vals (shuffled s (size n)).2) → Below w.heap.size w w' → Shuf s n w e w' :=
      fun w' e h1 h2 h3 => ⟨_, h1, by omega, h2, h3⟩
    have POST' := Lib.hid POST
    clear POST
    have MK : ∀ W : World, (Instr.makeSlice 37 (.int .i64 (size n)) (.int .i64 (size n))).run Try.prog W = .ok (.slice (some ⟨W.heap.size, 0, none⟩) (size n) (size n)) (W.alloc (.cells (vals (List.replicate (size n) 0)) 3)) := fun W => by
      have h := M.out W (size n : Int) (by omega) (by omega)
      rwa [Int.toNat_natCast] at h
    generalize size n = m at *
    generalize shuffled s m = R at *
    go_wp2_with fail
    have c3 := Lib.hid (h2.out (vals (List.replicate m 0)))
    have c0 := Lib.hid (h0.out.alloc (.cells (vals (List.replicate m 0)) 3))
    have c1 := Lib.hid (h1.out.alloc (.cells (vals (List.replicate m 0)) 3))
    have cb := Lib.hid (hB.out.alloc (by simp <;> omega) (.cells (vals (List.replicate m 0)) 3))
    clear hB h0 h1 h2 MK
    generalize hG : w.heap.size = G at *
    generalize ((w.alloc (.cells #[.int .u64 s] 24)).alloc (.cells #[.int .u64 0] 24)).alloc (.cells (vals (List.replicate m 0)) 3) = wc at *
    go_loopw [8] (fun s8 wL => ∃ k : Nat, k ≤ m ∧ s8 = .int .i64 k ∧ Hid (Has wL (G + 1 + 1) (vals (fill m k))) ∧ Hid (Has wL G #[.int .u64 s]) ∧ Hid (Has wL (G + 1) #[.int .u64 0]) ∧ Hid (Below G w wL)) (fun s8 _ => m - (intOf s8).toNat)
    case atStart => exact ⟨0, Nat.zero_le _, rfl, by rw [fill_zero]; exact c3, c0, c1, cb⟩
    case round =>
      obtain ⟨k, hk, rfl, c3, c0, c1, cb⟩ := hrel
      by_cases hlt : k < m
      · have g1 := Has.get c3.out k (by rw [fill_length m k hk]; exact hlt)
        have g2 := c3.out.free k
        have g3 := c3.out.lt
        have NX := Has.put c3.out k k
        rw [fill_next m k hlt] at NX
        have NX' := Lib.hid NX
        clear NX
        go_wp2_with fail
        go_roundw
        case rel => exact ⟨k + 1, by omega, by go_num, NX', Lib.hid (c0.out.far (by simp <;> omega) _), Lib.hid (c1.out.far (by simp <;> omega) _), Lib.hid (cb.out.setCell (by simp <;> omega) _)⟩
        case measure => simp [intOf]; omega
      · obtain rfl : k = m := by omega
        go_wp2_with fail
        rw [fill_all] at c3
        have lk := upTo_length k
        have ST : Hid (shuf ((k : Int) - 1).toNat s (upTo k) = R) := by
          rw [show ((k : Int) - 1).toNat = k - 1 from by omega]; exact FIN.out.symm
        go_loopw [9] (fun s9 wL => ∃ (i : Int) (t : Int) (l : List Int), s9 = .int .i64 i ∧ -1 ≤ i ∧ i < k ∧ l.length = k ∧ Hid (shuf i.toNat t l = R) ∧ Hid (Has wL (G + 1 + 1) (vals l)) ∧ Hid (Has wL G #[.int .u64 t]) ∧ Hid (Has wL (G + 1) #[.int .u64 0]) ∧ Hid (Below G w wL)) (fun s9 _ => (intOf s9).toNat)
        case atStart => exact ⟨_, s, upTo k, rfl, by omega, by omega, lk, ST, c3, c0, c1, cb⟩
        case round =>
          obtain ⟨i, t, l, rfl, hi0, hi1, hl, hS, c3, c0, c1, cb⟩ := hrel
          by_cases hpos : 0 < i
          · obtain ⟨j, rfl⟩ : ∃ j : Nat, i = j + 1 := ⟨(i - 1).toNat, by omega⟩
            have hmod := mod_in t ((j : Int) + 1 + 1) (by omega)
            obtain ⟨q, hq⟩ := Int.eq_ofNat_of_zero_le hmod.1
            rw [hq] at hmod
            have NS : Hid (shuf j (stp t) (swp l (j + 1) q) = R) := by
              have h := hS.out
              rw [show ((j : Int) + 1).toNat = j + 1 from by omega, shuf, hq] at h
              exact h
            have DR := Lib.hid (fun w => rbelow_hi t ((j : Int) + 1 + 1) w (by omega) (by omega))
            rw [hq] at DR
            have HL := Lib.hid hl
            have b1 : (0 : Int) ≤ (q : Int) := by omega
            have b2 : (q : Int) < (k : Int) := by omega
            have b3 : q < k := by omega
            have b4 : j + 1 < k := by omega
            clear hq hS ST FIN hl
            have d1 := c0.out.cell 0
            simp only [List.getElem?_toArray, List.getElem?_cons_zero] at d1
            go_wp2_with fail
            refine (DR.out _).mono ?_
            rintro e w1 ⟨rfl, k1⟩
            have g0 := Has.step0 c0.out k1
            have d1 := g0.cell 0
            have d2 := g0.free 0
            have d3 := g0.lt
            simp only [List.getElem?_toArray, List.getElem?_cons_zero] at d1
            have g3 := Lib.hid (Has.step0 c3.out k1)
            have g1 := Lib.hid (Has.step0 c1.out k1)
            have gb := Lib.hid (cb.out.trans (k1.mono (by have := c0.out.lt; omega)))
            have g0' := Lib.hid g0
            clear k1 g0
            go_upto_region 12 with fail
            have g0 := Lib.hid ((g0'.out.set 0 (.int .u64 (stp t))).alloc (.cells #[.int .u64 (stp t)] 24))
            have g3 := (g3.out.far (p := ⟨G, 0, none⟩) (by simp <;> omega) (.int .u64 (stp t))).alloc (.cells #[.int .u64 (stp t)] 24)
            have g1 := Lib.hid ((g1.out.far (p := ⟨G, 0, none⟩) (by simp <;> omega) (.int .u64 (stp t))).alloc (.cells #[.int .u64 (stp t)] 24))
            have gb := Lib.hid ((gb.out.setCell (p := ⟨G, 0, none⟩) (by simp <;> omega) (.int .u64 (stp t))).alloc (by have := g0'.out.lt; simp [World.setCell]; omega) (.cells #[.int .u64 (stp t)] 24))
            clear g0' d1 d2 d3
            generalize (w1.setCell ⟨G, 0, none⟩ (.int .u64 (stp t))).alloc (.cells #[.int .u64 (stp t)] 24) = w2 at *
            have x1 := Has.get g3 (j + 1) (by rw [HL.out]; exact b4)
            have x2 := Has.get g3 q (by rw [HL.out]; exact b3)
            have x3 := Has.get (Has.put g3 (j + 1) (l.getD q 0)) q (by rw [List.length_set, HL.out]; exact b3)
            have x4 := g3.free (j + 1)
            have x5 := g3.free q
            have x6 := g3.lt
            have N3 : Hid (Has ((w2.setCell ⟨G + 1 + 1, j + 1, none⟩ (.int .i64 (l.getD q 0))).setCell ⟨G + 1 + 1, q, none⟩ (.int .i64 (l.getD (j + 1) 0))).drew (G + 1 + 1) (vals (swp l (j + 1) q))) := Lib.hid (Has.put (Has.put g3 (j + 1) (l.getD q 0)) q (l.getD (j + 1) 0)).drew
            have NL : Hid ((swp l (j + 1) q).length = k) := by
              rw [swp_length]; exact HL
            generalize swp l (j + 1) q = l2 at *
            clear g3 c0 c1 c3 cb
            generalize l.getD (j + 1) 0 = u1 at *
            generalize l.getD q 0 = u2 at *
            generalize (l.set (j + 1) u2).getD q 0 = u3 at *
            go_region
            all_goals
              go_wp2_with fail
              go_roundw
              case rel => exact ⟨j, stp t, l2, by go_num, by omega, by omega, NL.out, NS, N3, Lib.hid ((g0.out.far (by simp <;> omega) _).far (by simp <;> omega) _).drew, Lib.hid ((g1.out.far (by simp <;> omega) _).far (by simp <;> omega) _).drew, Lib.hid ((gb.out.setCell (by simp <;> omega) _).setCell (by simp <;> omega) _).drew⟩
              case measure => simp [intOf] <;> omega
          · have hz : i.toNat = 0 := by omega
            have h := hS.out
            rw [hz, shuf] at h
            subst h
            have r0 := c0.out.cell 0
            have r1 := c1.out.cell 0
            have r2 := c1.out.free 0
            have r3 := c1.out.lt
            have hneg : i < 1 := by omega
            simp only [List.getElem?_toArray, List.getElem?_cons_zero] at r0 r1
            go_wp2_with fail
            refine bodyPost_ret (v := .tuple #[.agg #[.int .u64 t], .slice (some ⟨G + 1 + 1, 0, none⟩) k k]) (by simp [results, Try.results21, go_sem, r1]) rfl (POST'.out _ _ rfl (c3.out.far (by simp <;> omega) _) (cb.out.setCell (by simp <;> omega) _))
end RandF
end Go.Proofs.Ytdnonfoidamkcaa
