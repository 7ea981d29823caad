/- The reference's lists: bases, inputs, initial. No conditions. Made by gnV.py. -/
import Derived.Test.YtgbbpliihglijaaGreatNetR
import Derived.Test.YtgbbpliihglijaaGreatGAJ
import Derived.Test.YtgbbpliihglijaaGreatGAC
import Derived.Test.YtgbbpliihglijaaGreatGBF
import Derived.BigQuiet
namespace Go.Proofs.YtgbbpliihglijaaGreat
open Go Go.RowKit
namespace NetV
open Kit LexM TermM TermI TermH NetM NetN NetK NetA NetB
theorem rg_any (x : Tm) (B : Nat) (w : World) (sv : Value) (hB : B ≤ w.heap.size) (hn : x.nm.size ≤ maxLen) (h : SlIn (· < B) w x.args sv) :
    Calls Tryz.prog 83 #[.agg #[.string x.nm, sv]] w fun e w' => e = .returned (.bool (groundB x)) ∧ Below w.heap.size w w' :=
  (TermV.rground_any x B w sv hB hn h).mono fun _ _ h => ⟨by rw [ground_eq]; exact h.1, h.2.1⟩
theorem rc_any (x y : Tm) (B : Nat) (w : World) (sv sv' : Value) (hB : B ≤ w.heap.size) (hn : x.nm.size ≤ maxLen) (hm : y.nm.size ≤ maxLen) (h : SlIn (· < B) w x.args sv) (h' : SlIn (· < B) w y.args sv') :
    Calls Tryz.prog 84 #[.agg #[.string x.nm, sv], .agg #[.string y.nm, sv']] w fun e w' => e = .returned (.int .i64 (cmpT x y)) ∧ Below w.heap.size w w' :=
  (TermCr.rcmp_any x B w sv y sv' hB hn hm h h').mono fun _ _ h => ⟨h.1, h.2.1⟩
set_option maxRecDepth 100000 in
set_option maxHeartbeats 6400000 in
theorem rlists_any (n : Nt) (h : Nh) (B : Nat) (w : World) (hB : B ≤ w.heap.size) (k : NetIn (· < B) w n h) :
    Calls Tryz.prog 69 #[.agg #[.slice h.gp n.gates.length h.gc, .slice h.rp n.roles.length h.rc, .slice h.bp n.bases.length h.bc, .slice h.ip n.inputs.length h.ic, .slice h.ap n.initial.length h.ac, .slice h.np n.next.length h.nc, .slice h.lp n.legal.length h.lc, .slice h.op n.goals.length h.oc, .slice h.sp n.sees.length h.sc, .int .i64 n.last, .bool n.hid]] w fun e w' => e = .returned (.bool (listsB groundB n)) ∧ Below w.heap.size w w' := by
  obtain ⟨W1, hW1⟩ : ∃ z, z = w.alloc (.cells #[.slice h.gp n.gates.length h.gc, .slice h.rp n.roles.length h.rc, .slice h.bp n.bases.length h.bc, .slice h.ip n.inputs.length h.ic, .slice h.ap n.initial.length h.ac, .slice h.np n.next.length h.nc, .slice h.lp n.legal.length h.lc, .slice h.op n.goals.length h.oc, .slice h.sp n.sees.length h.sc, .int .i64 n.last, .bool n.hid] 28) := ⟨_, rfl⟩
  have K1 : Hid (Below w.heap.size w W1) := Lib.hid (by rw [hW1]; exact below_alloc _ _)
  have H1 : Hid (Has W1 w.heap.size (netC n h)) := Lib.hid (by rw [hW1]; exact Has.new _ _ _)
  have hzz := K1.out.size
  have KW := Lib.hid (fun w' (q : Below W1.heap.size W1 w') => show Below w.heap.size w w' from K1.out.trans (q.mono hzz))
  have NK := Lib.hid (fun w' (q : Below W1.heap.size W1 w') => k.deep (KW.out w' q) hB)
  have HQ := Lib.hid (fun w' (q : Below W1.heap.size W1 w') => hasN (H1.out.step0 q))
  have hm : n.bases.length ≤ maxLen := by obtain ⟨_, h1, h2⟩ := slin_cap k.bases; omega
  have hmi : n.inputs.length ≤ maxLen := by obtain ⟨_, h1, h2⟩ := k.inputs.cap; omega
  have hma : n.initial.length ≤ maxLen := by obtain ⟨_, h1, h2⟩ := k.initial.cap; omega
  unfold maxLen at hm hmi hma
  have FB : Hid (∀ j, j < n.bases.length → baseAt groundB n.bases j = false → listsB groundB n = false) := Lib.hid (fun j hj e => by unfold listsB; rw [alln_false hj e]; rfl)
  have FI : Hid (∀ j, j < n.inputs.length → inputAt groundB n.roles.length n.inputs j = false → listsB groundB n = false) := Lib.hid (fun j hj e => by unfold listsB; rw [alln_false hj e, Bool.false_and, Bool.and_false])
  have FA : Hid (∀ j, j < n.initial.length → numAt n.initial n.bases.length j = false → listsB groundB n = false) := Lib.hid (fun j hj e => by
    have e2 : numsB n.initial n.bases.length = false := alln_false hj e
    unfold listsB
    rw [e2, Bool.false_and, Bool.and_false, Bool.and_false])
  have FT : Hid ((∀ j, j < n.bases.length → baseAt groundB n.bases j = true) → (∀ j, j < n.inputs.length → inputAt groundB n.roles.length n.inputs j = true) → (∀ j, j < n.initial.length → numAt n.initial n.bases.length j = true) → listsB groundB n = (decide (n.next.length = n.bases.length) && decide (n.legal.length = n.inputs.length))) := Lib.hid (fun h1 h2 h3 => by
    have e2 : numsB n.initial n.bases.length = true := alln_true.2 h3
    unfold listsB
    rw [alln_true.2 h1, alln_true.2 h2, e2]
    rfl)
  clear k
  generalize listsB groundB n = R at *
  obtain ⟨q1, q2, q3, q4, q5, q6, q7, q8, q9, q10, q11⟩ := HQ.out W1 (Below.refl _ _)
  generalize hgr : n.roles.length = rn at *
  generalize hgn : n.next.length = nn at *
  generalize hgl : n.legal.length = nl at *
  generalize hga : n.initial.length = na at *
  have HA := Lib.hid hga
  generalize hgi : n.inputs.length = ni at *
  have HI := Lib.hid hgi
  generalize hgb : n.bases.length = m at *
  have HM := Lib.hid hgb
  clear hgr hgn hgl hga hgi hgb
  go_enter Tryz.func69, Tryz.ntmps69
  go_upto_region 1 with fail
  rw [← hW1]
  clear hW1
  go_wp2_with fail
  clear q1 q2 q3 q4 q5 q6 q7 q8 q9 q10 q11
  go_loopw [3] (fun i wr => ∃ k : Nat, k ≤ m ∧ i = .int .i64 k ∧ Hid (∀ j, j < k → baseAt groundB n.bases j = true) ∧ Hid (Below W1.heap.size W1 wr)) (fun i _ => m - (intOf i).toNat)
  case atStart => exact ⟨0, Nat.zero_le _, rfl, Lib.hid (fun j hj => by omega), Lib.hid (Below.refl _ _)⟩
  case round =>
    obtain ⟨k, hk, rfl, hT, hD⟩ := hrel
    have HQ3 := Lib.hid (fun w' (g : Below wr.heap.size wr w') => (HQ.out w' (next0 hD.out g)).2.2.1)
    obtain ⟨q1, q2, q3, q4, q5, q6, q7, q8, q9, q10, q11⟩ := HQ.out wr hD.out
    by_cases hlt : k < m
    · obtain ⟨x, hx⟩ : ∃ x, n.bases[k]? = some x := ⟨n.bases[k]'(by rw [HM.out]; exact hlt), by simp⟩
      obtain ⟨b, o, q, d, ep, hbB, c0, c1, sx, nx⟩ := slin_at (NK.out wr hD.out).bases hx
      have hBr := Nat.le_trans hB (KW.out wr hD.out).size
      have hbr : b < wr.heap.size := Nat.lt_of_lt_of_le hbB hBr
      have GG := Lib.hid (fun w' (g : Below wr.heap.size wr w') => rg_any x B w' (.slice q x.args.length d) (Nat.le_trans hBr g.size) nx (sx.frame fun b o (hb : b < B) => g.cell (p := ⟨b, o, none⟩) (Nat.lt_of_lt_of_le hb hBr)))
      have TX := Lib.hid (tm_get hx)
      obtain ⟨G, hG⟩ : ∃ G, baseAt groundB n.bases k = G := ⟨_, rfl⟩
      have BA : Hid (G = (groundB x && (decide (k = 0) || decide (cmpT (tmAt n.bases (k - 1)) x < 0)))) := Lib.hid (by rw [← hG]; unfold baseAt; rw [TX.out])
      have BAD : Hid (G = false → R = false) := Lib.hid (fun e => FB.out k hlt (hG.trans e))
      have T2 : Hid (G = true → ∀ j, j < k + 1 → baseAt groundB n.bases j = true) := Lib.hid (fun e j hj => by
        by_cases ej : j = k
        · subst ej
          exact hG.trans e
        · exact hT.out j (by omega))
      have C0 := Lib.hid c0
      have C1 := Lib.hid c1
      have SX := Lib.hid sx
      have HX := Lib.hid hx
      have NX := Lib.hid nx
      have HQ4 : Hid (∀ w', Below wr.heap.size wr w' → w'.cell? ⟨w.heap.size, 2, none⟩ = some (.slice (some ⟨b, o, none⟩) m h.bc)) := Lib.hid (fun w' g => by rw [← ep]; exact HQ3.out w' g)
      have j0 : (0 : Int) ≤ (k : Int) := by omega
      have j1 : (k : Int) < m := by omega
      clear hG hx c0 c1 sx nx HQ3
      have EP := Lib.hid ep
      clear ep
      generalize hgx : groundB x = gx at *
      clear hgx
      have HXN : Hid (∀ y sv w', Below wr.heap.size wr w' → y.nm.size ≤ maxLen → SlIn (· < B) wr y.args sv → Calls Tryz.prog 84 #[.agg #[.string y.nm, sv], .agg #[.string x.nm, .slice q x.args.length d]] w' fun e w'' => e = .returned (.int .i64 (cmpT y x)) ∧ Below w'.heap.size w' w'') := Lib.hid (fun y sv w' g hy hs => rc_any y x B w' sv (.slice q x.args.length d) (Nat.le_trans hBr g.size) hy NX.out (hs.frame fun b o (hb : b < B) => g.cell (p := ⟨b, o, none⟩) (Nat.lt_of_lt_of_le hb hBr)) (SX.out.frame fun b o (hb : b < B) => g.cell (p := ⟨b, o, none⟩) (Nat.lt_of_lt_of_le hb hBr)))
      obtain ⟨F, hF⟩ : ∃ F, F = (fun y => cmpT y x) := ⟨_, rfl⟩
      have HXF : Hid (∀ y sv w', Below wr.heap.size wr w' → y.nm.size ≤ maxLen → SlIn (· < B) wr y.args sv → Calls Tryz.prog 84 #[.agg #[.string y.nm, sv], .agg #[.string x.nm, .slice q x.args.length d]] w' fun e w'' => e = .returned (.int .i64 (F y)) ∧ Below w'.heap.size w' w'') := Lib.hid (by rw [hF]; exact HXN.out)
      have BF : Hid (G = (gx && (decide (k = 0) || decide (F (tmAt n.bases (k - 1)) < 0)))) := Lib.hid (by rw [BA.out, hF])
      clear HXN BA hF SX NX TX
      generalize x.nm = xn at *
      generalize x.args.length = xa at *
      go_upto_region 4 with fail
      clear q1 q2 q3 q4 q5 q6 q7 q8 q9 q10 q11
      go_cut [40] (fun s wx => s = .bool (!G) ∧ Hid (Below wr.heap.size wr wx))
      case first =>
        clear BAD T2 FB FI FA FT hT
        have hq0 : Hid (Below wr.heap.size wr wr.drew) := Lib.hid (Below.refl _ _).drew
        cases gx
        · have e0 : Hid (G = false) := Lib.hid (by rw [BF.out]; rfl)
          have Hb : Hid (∀ w', Below wr.heap.size wr w' → w'.cell? ⟨w.heap.size, 2, none⟩ = some (.slice (some ⟨b, o, none⟩) m h.bc) ∧ w'.cell? ⟨b, o + k * 2, none⟩ = some (.string xn) ∧ w'.cell? ⟨b, o + k * 2 + 1, none⟩ = some (.slice q xa d)) := Lib.hid (fun w' g => ⟨HQ4.out w' g, (g.cell (p := ⟨b, _, none⟩) hbr).trans C0.out, (g.cell (p := ⟨b, _, none⟩) hbr).trans C1.out⟩)
          obtain ⟨x1, x2, x3⟩ := Hb.out _ hq0.out
          clear BF HXF C0 C1 HX HQ4
          go_wp2_with fail
          refine wp_region_held_drew (S := (fun w' => w'.cell? ⟨w.heap.size, 2, none⟩ = some (.slice (some ⟨b, o, none⟩) m h.bc) ∧ w'.cell? ⟨b, o + k * 2, none⟩ = some (.string xn) ∧ w'.cell? ⟨b, o + k * 2 + 1, none⟩ = some (.slice q xa d))) (by kernel_rfl) (Hb.out _ hq0.out) (fun hHeld => ?_)
          refine wpAnyH_take (i := 0) (v := ?_) rfl (by kernel_rfl) (by kernel_rfl) (by kernel_rfl) (fun _ _ _ h => h) (Or.inl ⟨by rfl, ?_⟩) (by assumption) ?_
          rotate_left
          · intro w' hSw; (try dsimp only at hSw); (try simp only [List.getElem_toArray, List.getElem_cons_zero]); go_simp; try with_reducible rfl
          (try simp only [List.getElem_toArray, List.getElem_cons_zero, Act.put, List.setIfInBounds_toArray, List.set_cons_zero, List.set_cons_succ])
          refine wpAnyH_take (i := 1) (v := ?_) rfl (by kernel_rfl) (by kernel_rfl) (by kernel_rfl) (fun _ _ _ h => h) (Or.inl ⟨by rfl, ?_⟩) (by assumption) ?_
          rotate_left
          · intro w' hSw; (try dsimp only at hSw); (try simp only [List.getElem_toArray, List.getElem_cons_zero, List.getElem_cons_succ]); go_simp; try with_reducible rfl
          (try simp only [List.getElem_toArray, List.getElem_cons_zero, List.getElem_cons_succ, Act.put, List.setIfInBounds_toArray, List.set_cons_zero, List.set_cons_succ])
          refine wpAnyH_take (i := 2) (v := ?_) rfl (by kernel_rfl) (by kernel_rfl) (by kernel_rfl) (fun _ _ _ h => h) (Or.inl ⟨by rfl, ?_⟩) (by assumption) ?_
          rotate_left
          · intro w' hSw; (try dsimp only at hSw); (try simp only [List.getElem_toArray, List.getElem_cons_zero, List.getElem_cons_succ]); go_simp; try with_reducible rfl
          (try simp only [List.getElem_toArray, List.getElem_cons_zero, List.getElem_cons_succ, Act.put, List.setIfInBounds_toArray, List.set_cons_zero, List.set_cons_succ])
          refine wpAnyH_take (i := 3) (v := ?_) rfl (by kernel_rfl) (by kernel_rfl) (by kernel_rfl) (fun _ _ _ h => h) (Or.inl ⟨by rfl, ?_⟩) (by assumption) ?_
          rotate_left
          · intro w' hSw; (try dsimp only at hSw); (try simp only [List.getElem_toArray, List.getElem_cons_zero, List.getElem_cons_succ]); go_simp; try with_reducible rfl
          (try simp only [List.getElem_toArray, List.getElem_cons_zero, List.getElem_cons_succ, Act.put, List.setIfInBounds_toArray, List.set_cons_zero, List.set_cons_succ])
          refine wpAnyH_take (i := 4) (v := ?_) rfl (by kernel_rfl) (by kernel_rfl) (by kernel_rfl) (fun _ _ _ h => h) (Or.inl ⟨by rfl, ?_⟩) (by assumption) ?_
          rotate_left
          · intro w' hSw; (try dsimp only at hSw); (try simp only [List.getElem_toArray, List.getElem_cons_zero, List.getElem_cons_succ]); go_simp; try with_reducible rfl
          (try simp only [List.getElem_toArray, List.getElem_cons_zero, List.getElem_cons_succ, Act.put, List.setIfInBounds_toArray, List.set_cons_zero, List.set_cons_succ])
          refine wpAnyH_ready (rs := [5]) (by kernel_rfl) (by simp) ?_
          refine AllReadyH.cons rfl (fun K hK => ?_) AllReadyH.nil
          go_simp
          (try go_split_ands)
          go_at_call 83
          (try go_split_ands)
          (with_reducible refine (GG.out _ (by repeat (first | (with_reducible exact Hid.out (by assumption)) | (with_reducible exact Below.refl _ _) | (with_reducible refine Below.drew ?_)))).mono ?_)
          rintro e w' ⟨rfl, q0⟩
          (have qg : Below wr.heap.size wr w' := by (refine next0 ?_ q0; repeat (first | (with_reducible exact Hid.out (by assumption)) | (with_reducible exact Below.refl _ _) | (with_reducible refine Below.drew ?_))))
          clear q0
          refine hK.out _ _ (Hb.out _ qg) (fun hHeld => ?_)
          clear hK K
          (try simp only [List.getElem_toArray, List.getElem_cons_zero, List.getElem_cons_succ, Act.put, List.setIfInBounds_toArray, List.set_cons_zero, List.set_cons_succ])
          refine wpAnyH_take (i := 6) (v := ?_) rfl (by kernel_rfl) (by kernel_rfl) (by kernel_rfl) (fun _ _ _ h => h) (Or.inl ⟨by rfl, ?_⟩) (by assumption) ?_
          rotate_left
          · intro w' hSw; (try dsimp only at hSw); (try simp only [List.getElem_toArray, List.getElem_cons_zero, List.getElem_cons_succ]); go_simp; try with_reducible rfl
          (try simp only [List.getElem_toArray, List.getElem_cons_zero, List.getElem_cons_succ, Act.put, List.setIfInBounds_toArray, List.set_cons_zero, List.set_cons_succ])
          refine wpAnyH_take (i := 7) (v := ?_) rfl (by kernel_rfl) (by kernel_rfl) (by kernel_rfl) (fun _ _ _ h => h) (Or.inl ⟨by rfl, ?_⟩) (by assumption) ?_
          rotate_left
          · intro w' hSw; (try dsimp only at hSw); (try simp only [List.getElem_toArray, List.getElem_cons_zero, List.getElem_cons_succ]); go_simp; try with_reducible rfl
          (try simp only [List.getElem_toArray, List.getElem_cons_zero, List.getElem_cons_succ, Act.put, List.setIfInBounds_toArray, List.set_cons_zero, List.set_cons_succ])
          refine wpAnyH_take (i := 8) (v := undef) rfl (by kernel_rfl) (by kernel_rfl) (by kernel_rfl) (fun _ _ _ h => h) (Or.inr ⟨by rfl, rfl⟩) (by assumption) ?_
          (try simp only [List.getElem_toArray, List.getElem_cons_zero, List.getElem_cons_succ, Act.put, List.setIfInBounds_toArray, List.set_cons_zero, List.set_cons_succ])
          refine wpAnyH_take (i := 9) (v := undef) rfl (by kernel_rfl) (by kernel_rfl) (by kernel_rfl) (fun _ _ _ h => h) (Or.inr ⟨by rfl, rfl⟩) (by assumption) ?_
          (try simp only [List.getElem_toArray, List.getElem_cons_zero, List.getElem_cons_succ, Act.put, List.setIfInBounds_toArray, List.set_cons_zero, List.set_cons_succ])
          refine wpAnyH_take (i := 10) (v := undef) rfl (by kernel_rfl) (by kernel_rfl) (by kernel_rfl) (fun _ _ _ h => h) (Or.inr ⟨by rfl, rfl⟩) (by assumption) ?_
          (try simp only [List.getElem_toArray, List.getElem_cons_zero, List.getElem_cons_succ, Act.put, List.setIfInBounds_toArray, List.set_cons_zero, List.set_cons_succ])
          first
            | (refine wpAnyH_take (i := 11) (v := undef) rfl (by kernel_rfl) (by kernel_rfl) (by kernel_rfl) (fun _ _ _ h => h) (Or.inr ⟨by rfl, rfl⟩) (by assumption) ?_)
            | (refine wpAnyH_ready (rs := [11]) (by kernel_rfl) (by simp) ?_; refine AllReadyH.cons rfl (fun K hK => ?_) AllReadyH.nil; rw [if_neg (by decide)]; refine hK.out _ _ (by assumption) (fun hHeld => ?_); clear hK K)
          (try simp only [List.getElem_toArray, List.getElem_cons_zero, List.getElem_cons_succ, Act.put, List.setIfInBounds_toArray, List.set_cons_zero, List.set_cons_succ])
          first
            | (refine wpAnyH_take (i := 12) (v := undef) rfl (by kernel_rfl) (by kernel_rfl) (by kernel_rfl) (fun _ _ _ h => h) (Or.inr ⟨by rfl, rfl⟩) (by assumption) ?_)
            | (refine wpAnyH_ready (rs := [12]) (by kernel_rfl) (by simp) ?_; refine AllReadyH.cons rfl (fun K hK => ?_) AllReadyH.nil; rw [if_neg (by decide)]; refine hK.out _ _ (by assumption) (fun hHeld => ?_); clear hK K)
          (try simp only [List.getElem_toArray, List.getElem_cons_zero, List.getElem_cons_succ, Act.put, List.setIfInBounds_toArray, List.set_cons_zero, List.set_cons_succ])
          first
            | (refine wpAnyH_take (i := 13) (v := undef) rfl (by kernel_rfl) (by kernel_rfl) (by kernel_rfl) (fun _ _ _ h => h) (Or.inr ⟨by rfl, rfl⟩) (by assumption) ?_)
            | (refine wpAnyH_ready (rs := [13]) (by kernel_rfl) (by simp) ?_; refine AllReadyH.cons rfl (fun K hK => ?_) AllReadyH.nil; rw [if_neg (by decide)]; refine hK.out _ _ (by assumption) (fun hHeld => ?_); clear hK K)
          (try simp only [List.getElem_toArray, List.getElem_cons_zero, List.getElem_cons_succ, Act.put, List.setIfInBounds_toArray, List.set_cons_zero, List.set_cons_succ])
          first
            | (refine wpAnyH_take (i := 14) (v := undef) rfl (by kernel_rfl) (by kernel_rfl) (by kernel_rfl) (fun _ _ _ h => h) (Or.inr ⟨by rfl, rfl⟩) (by assumption) ?_)
            | (refine wpAnyH_ready (rs := [14]) (by kernel_rfl) (by simp) ?_; refine AllReadyH.cons rfl (fun K hK => ?_) AllReadyH.nil; rw [if_neg (by decide)]; refine hK.out _ _ (by assumption) (fun hHeld => ?_); clear hK K)
          (try simp only [List.getElem_toArray, List.getElem_cons_zero, List.getElem_cons_succ, Act.put, List.setIfInBounds_toArray, List.set_cons_zero, List.set_cons_succ])
          first
            | (refine wpAnyH_take (i := 15) (v := undef) rfl (by kernel_rfl) (by kernel_rfl) (by kernel_rfl) (fun _ _ _ h => h) (Or.inr ⟨by rfl, rfl⟩) (by assumption) ?_)
            | (refine wpAnyH_ready (rs := [15]) (by kernel_rfl) (by simp) ?_; refine AllReadyH.cons rfl (fun K hK => ?_) AllReadyH.nil; rw [if_neg (by decide)]; refine hK.out _ _ (by assumption) (fun hHeld => ?_); clear hK K)
          (try simp only [List.getElem_toArray, List.getElem_cons_zero, List.getElem_cons_succ, Act.put, List.setIfInBounds_toArray, List.set_cons_zero, List.set_cons_succ])
          first
            | (refine wpAnyH_take (i := 16) (v := undef) rfl (by kernel_rfl) (by kernel_rfl) (by kernel_rfl) (fun _ _ _ h => h) (Or.inr ⟨by rfl, rfl⟩) (by assumption) ?_)
            | (refine wpAnyH_ready (rs := [16]) (by kernel_rfl) (by simp) ?_; refine AllReadyH.cons rfl (fun K hK => ?_) AllReadyH.nil; rw [if_neg (by decide)]; refine hK.out _ _ (by assumption) (fun hHeld => ?_); clear hK K)
          (try simp only [List.getElem_toArray, List.getElem_cons_zero, List.getElem_cons_succ, Act.put, List.setIfInBounds_toArray, List.set_cons_zero, List.set_cons_succ])
          first
            | (refine wpAnyH_take (i := 17) (v := undef) rfl (by kernel_rfl) (by kernel_rfl) (by kernel_rfl) (fun _ _ _ h => h) (Or.inr ⟨by rfl, rfl⟩) (by assumption) ?_)
            | (refine wpAnyH_ready (rs := [17]) (by kernel_rfl) (by simp) ?_; refine AllReadyH.cons rfl (fun K hK => ?_) AllReadyH.nil; rw [if_neg (by decide)]; refine hK.out _ _ (by assumption) (fun hHeld => ?_); clear hK K)
          (try simp only [List.getElem_toArray, List.getElem_cons_zero, List.getElem_cons_succ, Act.put, List.setIfInBounds_toArray, List.set_cons_zero, List.set_cons_succ])
          first
            | (refine wpAnyH_take (i := 18) (v := undef) rfl (by kernel_rfl) (by kernel_rfl) (by kernel_rfl) (fun _ _ _ h => h) (Or.inr ⟨by rfl, rfl⟩) (by assumption) ?_)
            | (refine wpAnyH_ready (rs := [18]) (by kernel_rfl) (by simp) ?_; refine AllReadyH.cons rfl (fun K hK => ?_) AllReadyH.nil; rw [if_neg (by decide)]; refine hK.out _ _ (by assumption) (fun hHeld => ?_); clear hK K)
          (try simp only [List.getElem_toArray, List.getElem_cons_zero, List.getElem_cons_succ, Act.put, List.setIfInBounds_toArray, List.set_cons_zero, List.set_cons_succ])
          first
            | (refine wpAnyH_take (i := 19) (v := undef) rfl (by kernel_rfl) (by kernel_rfl) (by kernel_rfl) (fun _ _ _ h => h) (Or.inr ⟨by rfl, rfl⟩) (by assumption) ?_)
            | (refine wpAnyH_ready (rs := [19]) (by kernel_rfl) (by simp) ?_; refine AllReadyH.cons rfl (fun K hK => ?_) AllReadyH.nil; rw [if_neg (by decide)]; refine hK.out _ _ (by assumption) (fun hHeld => ?_); clear hK K)
          (try simp only [List.getElem_toArray, List.getElem_cons_zero, List.getElem_cons_succ, Act.put, List.setIfInBounds_toArray, List.set_cons_zero, List.set_cons_succ])
          first
            | (refine wpAnyH_take (i := 20) (v := undef) rfl (by kernel_rfl) (by kernel_rfl) (by kernel_rfl) (fun _ _ _ h => h) (Or.inr ⟨by rfl, rfl⟩) (by assumption) ?_)
            | (refine wpAnyH_ready (rs := [20]) (by kernel_rfl) (by simp) ?_; refine AllReadyH.cons rfl (fun K hK => ?_) AllReadyH.nil; rw [if_neg (by decide)]; refine hK.out _ _ (by assumption) (fun hHeld => ?_); clear hK K)
          (try simp only [List.getElem_toArray, List.getElem_cons_zero, List.getElem_cons_succ, Act.put, List.setIfInBounds_toArray, List.set_cons_zero, List.set_cons_succ])
          first
            | (refine wpAnyH_take (i := 21) (v := undef) rfl (by kernel_rfl) (by kernel_rfl) (by kernel_rfl) (fun _ _ _ h => h) (Or.inr ⟨by rfl, rfl⟩) (by assumption) ?_)
            | (refine wpAnyH_ready (rs := [21]) (by kernel_rfl) (by simp) ?_; refine AllReadyH.cons rfl (fun K hK => ?_) AllReadyH.nil; rw [if_neg (by decide)]; refine hK.out _ _ (by assumption) (fun hHeld => ?_); clear hK K)
          (try simp only [List.getElem_toArray, List.getElem_cons_zero, List.getElem_cons_succ, Act.put, List.setIfInBounds_toArray, List.set_cons_zero, List.set_cons_succ])
          first
            | (refine wpAnyH_take (i := 22) (v := undef) rfl (by kernel_rfl) (by kernel_rfl) (by kernel_rfl) (fun _ _ _ h => h) (Or.inr ⟨by rfl, rfl⟩) (by assumption) ?_)
            | (refine wpAnyH_ready (rs := [22]) (by kernel_rfl) (by simp) ?_; refine AllReadyH.cons rfl (fun K hK => ?_) AllReadyH.nil; rw [if_neg (by decide)]; refine hK.out _ _ (by assumption) (fun hHeld => ?_); clear hK K)
          (try simp only [List.getElem_toArray, List.getElem_cons_zero, List.getElem_cons_succ, Act.put, List.setIfInBounds_toArray, List.set_cons_zero, List.set_cons_succ])
          refine wpAnyH_take (i := 23) (v := undef) rfl (by kernel_rfl) (by kernel_rfl) (by kernel_rfl) (fun _ _ _ h => h) (Or.inr ⟨by rfl, rfl⟩) (by assumption) ?_
          (try simp only [List.getElem_toArray, List.getElem_cons_zero, List.getElem_cons_succ, Act.put, List.setIfInBounds_toArray, List.set_cons_zero, List.set_cons_succ])
          refine wpAnyH_take (i := 24) (v := undef) rfl (by kernel_rfl) (by kernel_rfl) (by kernel_rfl) (fun _ _ _ h => h) (Or.inr ⟨by rfl, rfl⟩) (by assumption) ?_
          (try simp only [List.getElem_toArray, List.getElem_cons_zero, List.getElem_cons_succ, Act.put, List.setIfInBounds_toArray, List.set_cons_zero, List.set_cons_succ])
          refine wpAnyH_take (i := 25) (v := ?_) rfl (by kernel_rfl) (by kernel_rfl) (by kernel_rfl) (fun _ _ _ h => h) (Or.inl ⟨by rfl, ?_⟩) (by assumption) ?_
          rotate_left
          · intro w' hSw; (try dsimp only at hSw); (try simp only [List.getElem_toArray, List.getElem_cons_zero, List.getElem_cons_succ]); go_simp; try with_reducible rfl
          (try simp only [List.getElem_toArray, List.getElem_cons_zero, List.getElem_cons_succ, Act.put, List.setIfInBounds_toArray, List.set_cons_zero, List.set_cons_succ])
          refine wpAnyH_done (by kernel_rfl) ?_ _
          go_wp2_with fail
          go_meet
          exact ⟨by rw [e0.out]; rfl, Lib.hid qg⟩
        by_cases hk0 : k = 0
        · have e0 : Hid (G = true) := Lib.hid (by rw [BF.out, decide_eq_true hk0]; rfl)
          have Hb : Hid (∀ w', Below wr.heap.size wr w' → w'.cell? ⟨w.heap.size, 2, none⟩ = some (.slice (some ⟨b, o, none⟩) m h.bc) ∧ w'.cell? ⟨b, o + k * 2, none⟩ = some (.string xn) ∧ w'.cell? ⟨b, o + k * 2 + 1, none⟩ = some (.slice q xa d)) := Lib.hid (fun w' g => ⟨HQ4.out w' g, (g.cell (p := ⟨b, _, none⟩) hbr).trans C0.out, (g.cell (p := ⟨b, _, none⟩) hbr).trans C1.out⟩)
          obtain ⟨x1, x2, x3⟩ := Hb.out _ hq0.out
          clear BF HXF C0 C1 HX HQ4
          have j2 : ¬ (0 : Int) < (k : Int) := by omega
          have j2n : ¬ 0 < k := by omega
          have j2d : decide (0 < k) = false := decide_eq_false j2n
          clear hk0
          go_wp2_with fail
          refine wp_region_held_drew (S := (fun w' => w'.cell? ⟨w.heap.size, 2, none⟩ = some (.slice (some ⟨b, o, none⟩) m h.bc) ∧ w'.cell? ⟨b, o + k * 2, none⟩ = some (.string xn) ∧ w'.cell? ⟨b, o + k * 2 + 1, none⟩ = some (.slice q xa d))) (by kernel_rfl) (Hb.out _ hq0.out) (fun hHeld => ?_)
          refine wpAnyH_take (i := 0) (v := ?_) rfl (by kernel_rfl) (by kernel_rfl) (by kernel_rfl) (fun _ _ _ h => h) (Or.inl ⟨by rfl, ?_⟩) (by assumption) ?_
          rotate_left
          · intro w' hSw; (try dsimp only at hSw); (try simp only [List.getElem_toArray, List.getElem_cons_zero]); go_simp; try with_reducible rfl
          (try simp only [List.getElem_toArray, List.getElem_cons_zero, Act.put, List.setIfInBounds_toArray, List.set_cons_zero, List.set_cons_succ])
          refine wpAnyH_take (i := 1) (v := ?_) rfl (by kernel_rfl) (by kernel_rfl) (by kernel_rfl) (fun _ _ _ h => h) (Or.inl ⟨by rfl, ?_⟩) (by assumption) ?_
          rotate_left
          · intro w' hSw; (try dsimp only at hSw); (try simp only [List.getElem_toArray, List.getElem_cons_zero, List.getElem_cons_succ]); go_simp; try with_reducible rfl
          (try simp only [List.getElem_toArray, List.getElem_cons_zero, List.getElem_cons_succ, Act.put, List.setIfInBounds_toArray, List.set_cons_zero, List.set_cons_succ])
          refine wpAnyH_take (i := 2) (v := ?_) rfl (by kernel_rfl) (by kernel_rfl) (by kernel_rfl) (fun _ _ _ h => h) (Or.inl ⟨by rfl, ?_⟩) (by assumption) ?_
          rotate_left
          · intro w' hSw; (try dsimp only at hSw); (try simp only [List.getElem_toArray, List.getElem_cons_zero, List.getElem_cons_succ]); go_simp; try with_reducible rfl
          (try simp only [List.getElem_toArray, List.getElem_cons_zero, List.getElem_cons_succ, Act.put, List.setIfInBounds_toArray, List.set_cons_zero, List.set_cons_succ])
          refine wpAnyH_take (i := 3) (v := ?_) rfl (by kernel_rfl) (by kernel_rfl) (by kernel_rfl) (fun _ _ _ h => h) (Or.inl ⟨by rfl, ?_⟩) (by assumption) ?_
          rotate_left
          · intro w' hSw; (try dsimp only at hSw); (try simp only [List.getElem_toArray, List.getElem_cons_zero, List.getElem_cons_succ]); go_simp; try with_reducible rfl
          (try simp only [List.getElem_toArray, List.getElem_cons_zero, List.getElem_cons_succ, Act.put, List.setIfInBounds_toArray, List.set_cons_zero, List.set_cons_succ])
          refine wpAnyH_take (i := 4) (v := ?_) rfl (by kernel_rfl) (by kernel_rfl) (by kernel_rfl) (fun _ _ _ h => h) (Or.inl ⟨by rfl, ?_⟩) (by assumption) ?_
          rotate_left
          · intro w' hSw; (try dsimp only at hSw); (try simp only [List.getElem_toArray, List.getElem_cons_zero, List.getElem_cons_succ]); go_simp; try with_reducible rfl
          (try simp only [List.getElem_toArray, List.getElem_cons_zero, List.getElem_cons_succ, Act.put, List.setIfInBounds_toArray, List.set_cons_zero, List.set_cons_succ])
          refine wpAnyH_ready (rs := [5]) (by kernel_rfl) (by simp) ?_
          refine AllReadyH.cons rfl (fun K hK => ?_) AllReadyH.nil
          go_simp
          (try go_split_ands)
          go_at_call 83
          (try go_split_ands)
          (with_reducible refine (GG.out _ (by repeat (first | (with_reducible exact Hid.out (by assumption)) | (with_reducible exact Below.refl _ _) | (with_reducible refine Below.drew ?_)))).mono ?_)
          rintro e w' ⟨rfl, q0⟩
          (have qg : Below wr.heap.size wr w' := by (refine next0 ?_ q0; repeat (first | (with_reducible exact Hid.out (by assumption)) | (with_reducible exact Below.refl _ _) | (with_reducible refine Below.drew ?_))))
          clear q0
          refine hK.out _ _ (Hb.out _ qg) (fun hHeld => ?_)
          clear hK K
          (try simp only [List.getElem_toArray, List.getElem_cons_zero, List.getElem_cons_succ, Act.put, List.setIfInBounds_toArray, List.set_cons_zero, List.set_cons_succ])
          refine wpAnyH_take (i := 6) (v := ?_) rfl (by kernel_rfl) (by kernel_rfl) (by kernel_rfl) (fun _ _ _ h => h) (Or.inl ⟨by rfl, ?_⟩) (by assumption) ?_
          rotate_left
          · intro w' hSw; (try dsimp only at hSw); (try simp only [List.getElem_toArray, List.getElem_cons_zero, List.getElem_cons_succ]); go_simp; try with_reducible rfl
          (try simp only [List.getElem_toArray, List.getElem_cons_zero, List.getElem_cons_succ, Act.put, List.setIfInBounds_toArray, List.set_cons_zero, List.set_cons_succ])
          refine wpAnyH_take (i := 7) (v := ?_) rfl (by kernel_rfl) (by kernel_rfl) (by kernel_rfl) (fun _ _ _ h => h) (Or.inl ⟨by rfl, ?_⟩) (by assumption) ?_
          rotate_left
          · intro w' hSw; (try dsimp only at hSw); (try simp only [List.getElem_toArray, List.getElem_cons_zero, List.getElem_cons_succ]); go_simp; try with_reducible rfl
          (try simp only [List.getElem_toArray, List.getElem_cons_zero, List.getElem_cons_succ, Act.put, List.setIfInBounds_toArray, List.set_cons_zero, List.set_cons_succ])
          refine wpAnyH_take (i := 8) (v := ?_) rfl (by kernel_rfl) (by kernel_rfl) (by kernel_rfl) (fun _ _ _ h => h) (Or.inl ⟨by rfl, ?_⟩) (by assumption) ?_
          rotate_left
          · intro w' hSw; (try dsimp only at hSw); (try simp only [List.getElem_toArray, List.getElem_cons_zero, List.getElem_cons_succ]); go_simp; try with_reducible rfl
          (try simp only [List.getElem_toArray, List.getElem_cons_zero, List.getElem_cons_succ, Act.put, List.setIfInBounds_toArray, List.set_cons_zero, List.set_cons_succ])
          refine wpAnyH_take (i := 9) (v := ?_) rfl (by kernel_rfl) (by kernel_rfl) (by kernel_rfl) (fun _ _ _ h => h) (Or.inl ⟨by rfl, ?_⟩) (by assumption) ?_
          rotate_left
          · intro w' hSw; (try dsimp only at hSw); (try simp only [List.getElem_toArray, List.getElem_cons_zero, List.getElem_cons_succ]); go_simp; try with_reducible rfl
          (try simp only [List.getElem_toArray, List.getElem_cons_zero, List.getElem_cons_succ, Act.put, List.setIfInBounds_toArray, List.set_cons_zero, List.set_cons_succ])
          refine wpAnyH_take (i := 10) (v := ?_) rfl (by kernel_rfl) (by kernel_rfl) (by kernel_rfl) (fun _ _ _ h => h) (Or.inl ⟨by rfl, ?_⟩) (by assumption) ?_
          rotate_left
          · intro w' hSw; (try dsimp only at hSw); (try simp only [List.getElem_toArray, List.getElem_cons_zero, List.getElem_cons_succ]); go_simp; try with_reducible rfl
          (try simp only [List.getElem_toArray, List.getElem_cons_zero, List.getElem_cons_succ, Act.put, List.setIfInBounds_toArray, List.set_cons_zero, List.set_cons_succ])
          first
            | (refine wpAnyH_take (i := 11) (v := undef) rfl (by kernel_rfl) (by kernel_rfl) (by kernel_rfl) (fun _ _ _ h => h) (Or.inr ⟨by rfl, rfl⟩) (by assumption) ?_)
            | (refine wpAnyH_ready (rs := [11]) (by kernel_rfl) (by simp) ?_; refine AllReadyH.cons rfl (fun K hK => ?_) AllReadyH.nil; rw [if_neg (by decide)]; refine hK.out _ _ (by assumption) (fun hHeld => ?_); clear hK K)
          (try simp only [List.getElem_toArray, List.getElem_cons_zero, List.getElem_cons_succ, Act.put, List.setIfInBounds_toArray, List.set_cons_zero, List.set_cons_succ])
          first
            | (refine wpAnyH_take (i := 12) (v := undef) rfl (by kernel_rfl) (by kernel_rfl) (by kernel_rfl) (fun _ _ _ h => h) (Or.inr ⟨by rfl, rfl⟩) (by assumption) ?_)
            | (refine wpAnyH_ready (rs := [12]) (by kernel_rfl) (by simp) ?_; refine AllReadyH.cons rfl (fun K hK => ?_) AllReadyH.nil; rw [if_neg (by decide)]; refine hK.out _ _ (by assumption) (fun hHeld => ?_); clear hK K)
          (try simp only [List.getElem_toArray, List.getElem_cons_zero, List.getElem_cons_succ, Act.put, List.setIfInBounds_toArray, List.set_cons_zero, List.set_cons_succ])
          first
            | (refine wpAnyH_take (i := 13) (v := undef) rfl (by kernel_rfl) (by kernel_rfl) (by kernel_rfl) (fun _ _ _ h => h) (Or.inr ⟨by rfl, rfl⟩) (by assumption) ?_)
            | (refine wpAnyH_ready (rs := [13]) (by kernel_rfl) (by simp) ?_; refine AllReadyH.cons rfl (fun K hK => ?_) AllReadyH.nil; rw [if_neg (by decide)]; refine hK.out _ _ (by assumption) (fun hHeld => ?_); clear hK K)
          (try simp only [List.getElem_toArray, List.getElem_cons_zero, List.getElem_cons_succ, Act.put, List.setIfInBounds_toArray, List.set_cons_zero, List.set_cons_succ])
          first
            | (refine wpAnyH_take (i := 14) (v := undef) rfl (by kernel_rfl) (by kernel_rfl) (by kernel_rfl) (fun _ _ _ h => h) (Or.inr ⟨by rfl, rfl⟩) (by assumption) ?_)
            | (refine wpAnyH_ready (rs := [14]) (by kernel_rfl) (by simp) ?_; refine AllReadyH.cons rfl (fun K hK => ?_) AllReadyH.nil; rw [if_neg (by decide)]; refine hK.out _ _ (by assumption) (fun hHeld => ?_); clear hK K)
          (try simp only [List.getElem_toArray, List.getElem_cons_zero, List.getElem_cons_succ, Act.put, List.setIfInBounds_toArray, List.set_cons_zero, List.set_cons_succ])
          first
            | (refine wpAnyH_take (i := 15) (v := undef) rfl (by kernel_rfl) (by kernel_rfl) (by kernel_rfl) (fun _ _ _ h => h) (Or.inr ⟨by rfl, rfl⟩) (by assumption) ?_)
            | (refine wpAnyH_ready (rs := [15]) (by kernel_rfl) (by simp) ?_; refine AllReadyH.cons rfl (fun K hK => ?_) AllReadyH.nil; rw [if_neg (by decide)]; refine hK.out _ _ (by assumption) (fun hHeld => ?_); clear hK K)
          (try simp only [List.getElem_toArray, List.getElem_cons_zero, List.getElem_cons_succ, Act.put, List.setIfInBounds_toArray, List.set_cons_zero, List.set_cons_succ])
          first
            | (refine wpAnyH_take (i := 16) (v := undef) rfl (by kernel_rfl) (by kernel_rfl) (by kernel_rfl) (fun _ _ _ h => h) (Or.inr ⟨by rfl, rfl⟩) (by assumption) ?_)
            | (refine wpAnyH_ready (rs := [16]) (by kernel_rfl) (by simp) ?_; refine AllReadyH.cons rfl (fun K hK => ?_) AllReadyH.nil; rw [if_neg (by decide)]; refine hK.out _ _ (by assumption) (fun hHeld => ?_); clear hK K)
          (try simp only [List.getElem_toArray, List.getElem_cons_zero, List.getElem_cons_succ, Act.put, List.setIfInBounds_toArray, List.set_cons_zero, List.set_cons_succ])
          first
            | (refine wpAnyH_take (i := 17) (v := undef) rfl (by kernel_rfl) (by kernel_rfl) (by kernel_rfl) (fun _ _ _ h => h) (Or.inr ⟨by rfl, rfl⟩) (by assumption) ?_)
            | (refine wpAnyH_ready (rs := [17]) (by kernel_rfl) (by simp) ?_; refine AllReadyH.cons rfl (fun K hK => ?_) AllReadyH.nil; rw [if_neg (by decide)]; refine hK.out _ _ (by assumption) (fun hHeld => ?_); clear hK K)
          (try simp only [List.getElem_toArray, List.getElem_cons_zero, List.getElem_cons_succ, Act.put, List.setIfInBounds_toArray, List.set_cons_zero, List.set_cons_succ])
          first
            | (refine wpAnyH_take (i := 18) (v := undef) rfl (by kernel_rfl) (by kernel_rfl) (by kernel_rfl) (fun _ _ _ h => h) (Or.inr ⟨by rfl, rfl⟩) (by assumption) ?_)
            | (refine wpAnyH_ready (rs := [18]) (by kernel_rfl) (by simp) ?_; refine AllReadyH.cons rfl (fun K hK => ?_) AllReadyH.nil; rw [if_neg (by decide)]; refine hK.out _ _ (by assumption) (fun hHeld => ?_); clear hK K)
          (try simp only [List.getElem_toArray, List.getElem_cons_zero, List.getElem_cons_succ, Act.put, List.setIfInBounds_toArray, List.set_cons_zero, List.set_cons_succ])
          first
            | (refine wpAnyH_take (i := 19) (v := undef) rfl (by kernel_rfl) (by kernel_rfl) (by kernel_rfl) (fun _ _ _ h => h) (Or.inr ⟨by rfl, rfl⟩) (by assumption) ?_)
            | (refine wpAnyH_ready (rs := [19]) (by kernel_rfl) (by simp) ?_; refine AllReadyH.cons rfl (fun K hK => ?_) AllReadyH.nil; rw [if_neg (by decide)]; refine hK.out _ _ (by assumption) (fun hHeld => ?_); clear hK K)
          (try simp only [List.getElem_toArray, List.getElem_cons_zero, List.getElem_cons_succ, Act.put, List.setIfInBounds_toArray, List.set_cons_zero, List.set_cons_succ])
          first
            | (refine wpAnyH_take (i := 20) (v := undef) rfl (by kernel_rfl) (by kernel_rfl) (by kernel_rfl) (fun _ _ _ h => h) (Or.inr ⟨by rfl, rfl⟩) (by assumption) ?_)
            | (refine wpAnyH_ready (rs := [20]) (by kernel_rfl) (by simp) ?_; refine AllReadyH.cons rfl (fun K hK => ?_) AllReadyH.nil; rw [if_neg (by decide)]; refine hK.out _ _ (by assumption) (fun hHeld => ?_); clear hK K)
          (try simp only [List.getElem_toArray, List.getElem_cons_zero, List.getElem_cons_succ, Act.put, List.setIfInBounds_toArray, List.set_cons_zero, List.set_cons_succ])
          first
            | (refine wpAnyH_take (i := 21) (v := undef) rfl (by kernel_rfl) (by kernel_rfl) (by kernel_rfl) (fun _ _ _ h => h) (Or.inr ⟨by rfl, rfl⟩) (by assumption) ?_)
            | (refine wpAnyH_ready (rs := [21]) (by kernel_rfl) (by simp) ?_; refine AllReadyH.cons rfl (fun K hK => ?_) AllReadyH.nil; rw [if_neg (by decide)]; refine hK.out _ _ (by assumption) (fun hHeld => ?_); clear hK K)
          (try simp only [List.getElem_toArray, List.getElem_cons_zero, List.getElem_cons_succ, Act.put, List.setIfInBounds_toArray, List.set_cons_zero, List.set_cons_succ])
          first
            | (refine wpAnyH_take (i := 22) (v := undef) rfl (by kernel_rfl) (by kernel_rfl) (by kernel_rfl) (fun _ _ _ h => h) (Or.inr ⟨by rfl, rfl⟩) (by assumption) ?_)
            | (refine wpAnyH_ready (rs := [22]) (by kernel_rfl) (by simp) ?_; refine AllReadyH.cons rfl (fun K hK => ?_) AllReadyH.nil; rw [if_neg (by decide)]; refine hK.out _ _ (by assumption) (fun hHeld => ?_); clear hK K)
          (try simp only [List.getElem_toArray, List.getElem_cons_zero, List.getElem_cons_succ, Act.put, List.setIfInBounds_toArray, List.set_cons_zero, List.set_cons_succ])
          refine wpAnyH_take (i := 23) (v := undef) rfl (by kernel_rfl) (by kernel_rfl) (by kernel_rfl) (fun _ _ _ h => h) (Or.inr ⟨by rfl, rfl⟩) (by assumption) ?_
          (try simp only [List.getElem_toArray, List.getElem_cons_zero, List.getElem_cons_succ, Act.put, List.setIfInBounds_toArray, List.set_cons_zero, List.set_cons_succ])
          refine wpAnyH_take (i := 24) (v := ?_) rfl (by kernel_rfl) (by kernel_rfl) (by kernel_rfl) (fun _ _ _ h => h) (Or.inl ⟨by rfl, ?_⟩) (by assumption) ?_
          rotate_left
          · intro w' hSw; (try dsimp only at hSw); (try simp only [List.getElem_toArray, List.getElem_cons_zero, List.getElem_cons_succ]); go_simp; try with_reducible rfl
          (try simp only [List.getElem_toArray, List.getElem_cons_zero, List.getElem_cons_succ, Act.put, List.setIfInBounds_toArray, List.set_cons_zero, List.set_cons_succ])
          refine wpAnyH_take (i := 25) (v := ?_) rfl (by kernel_rfl) (by kernel_rfl) (by kernel_rfl) (fun _ _ _ h => h) (Or.inl ⟨by rfl, ?_⟩) (by assumption) ?_
          rotate_left
          · intro w' hSw; (try dsimp only at hSw); (try simp only [List.getElem_toArray, List.getElem_cons_zero, List.getElem_cons_succ]); go_simp; try with_reducible rfl
          (try simp only [List.getElem_toArray, List.getElem_cons_zero, List.getElem_cons_succ, Act.put, List.setIfInBounds_toArray, List.set_cons_zero, List.set_cons_succ])
          refine wpAnyH_done (by kernel_rfl) ?_ _
          go_wp2_with fail
          go_meet
          exact ⟨by rw [e0.out]; rfl, Lib.hid qg⟩
        · obtain ⟨y, hy⟩ : ∃ y, n.bases[k - 1]? = some y := ⟨n.bases[k - 1]'(by rw [HM.out]; omega), by simp⟩
          obtain ⟨b', o', q', d', ep', _, c2, c3, sy, ny⟩ := slin_at (NK.out wr hD.out).bases hy
          rw [EP.out] at ep'
          injection ep' with ep'
          injection ep' with e1 e2 _
          subst e1 e2
          have CC := Lib.hid (fun w' g => HXF.out y (.slice q' y.args.length d') w' g ny sy)
          have e0 : Hid (G = decide (F y < 0)) := Lib.hid (by rw [BF.out, decide_eq_false hk0, tm_get hy]; rfl)
          obtain ⟨k1, hk1⟩ : ∃ k1, k1 = k - 1 := ⟨_, rfl⟩
          rw [← hk1] at c2 c3
          have j2 : (0 : Int) < (k : Int) := by omega
          have j2n : 0 < k := by omega
          have j2d : decide (0 < k) = true := decide_eq_true j2n
          have j3 : (k : Int) - 1 = (k1 : Int) := by omega
          have j4 : (0 : Int) ≤ (k1 : Int) := by omega
          have j5 : (k1 : Int) < m := by omega
          have j6 : IntKind.i64.wrap ((k : Int) - 1) = (k1 : Int) := by rw [j3, IntKind.wrap_i64]; omega
          have j7 : IntKind.i64.wrap (k1 : Int) = (k1 : Int) := by rw [IntKind.wrap_i64]; omega
          clear hy hk1 hk0 sy ny BF HXF HX
          generalize F y = cc at *
          generalize y.nm = yn at *
          generalize y.args.length = ya at *
          have Hb : Hid (∀ w', Below wr.heap.size wr w' → w'.cell? ⟨w.heap.size, 2, none⟩ = some (.slice (some ⟨b, o, none⟩) m h.bc) ∧ w'.cell? ⟨b, o + k * 2, none⟩ = some (.string xn) ∧ w'.cell? ⟨b, o + k * 2 + 1, none⟩ = some (.slice q xa d) ∧ w'.cell? ⟨b, o + k1 * 2, none⟩ = some (.string yn) ∧ w'.cell? ⟨b, o + k1 * 2 + 1, none⟩ = some (.slice q' ya d') ∧ Hid (Below wr.heap.size wr w')) := Lib.hid (fun w' g => ⟨HQ4.out w' g, (g.cell (p := ⟨b, _, none⟩) hbr).trans C0.out, (g.cell (p := ⟨b, _, none⟩) hbr).trans C1.out, (g.cell (p := ⟨b, _, none⟩) hbr).trans c2, (g.cell (p := ⟨b, _, none⟩) hbr).trans c3, Lib.hid g⟩)
          clear c2 c3 C0 C1 HQ4
          obtain ⟨x1, x2, x3, x4, x5, x6⟩ := Hb.out _ hq0.out
          have e1 : Hid ((!G) = decide (0 ≤ cc)) := Lib.hid (by
            rw [e0.out]
            by_cases hc : cc < 0
            · rw [decide_eq_true hc, decide_eq_false (by omega)]; rfl
            · rw [decide_eq_false hc, decide_eq_true (by omega)]; rfl)
          go_region_held3 (fun w' => w'.cell? ⟨w.heap.size, 2, none⟩ = some (.slice (some ⟨b, o, none⟩) m h.bc) ∧ w'.cell? ⟨b, o + k * 2, none⟩ = some (.string xn) ∧ w'.cell? ⟨b, o + k * 2 + 1, none⟩ = some (.slice q xa d) ∧ w'.cell? ⟨b, o + k1 * 2, none⟩ = some (.string yn) ∧ w'.cell? ⟨b, o + k1 * 2 + 1, none⟩ = some (.slice q' ya d') ∧ Hid (Below wr.heap.size wr w'))
            (first | (with_reducible assumption) | (with_reducible exact ⟨‹_›, ‹_›, ‹_›, ‹_›, ‹_›, ‹_›⟩) | (with_reducible refine Hb.out _ ?_; repeat (first | (with_reducible exact Hid.out (by assumption)) | (with_reducible exact Below.refl _ _) | (with_reducible refine Below.drew ?_))))
            (first | (go_at_call 83; (try go_split_ands); (with_reducible refine (GG.out _ (by repeat (first | (with_reducible exact Hid.out (by assumption)) | (with_reducible exact Below.refl _ _) | (with_reducible refine Below.drew ?_)))).mono ?_); rintro e w' ⟨rfl, q0⟩; (have qg : Below wr.heap.size wr w' := by (refine next0 ?_ q0; repeat (first | (with_reducible exact Hid.out (by assumption)) | (with_reducible exact Below.refl _ _) | (with_reducible refine Below.drew ?_)))); clear q0; obtain ⟨x1, x2, x3, x4, x5, x6⟩ := Hb.out _ qg) | (go_at_call 84; (try go_split_ands); (with_reducible refine (CC.out _ (by repeat (first | (with_reducible exact Hid.out (by assumption)) | (with_reducible exact Below.refl _ _) | (with_reducible refine Below.drew ?_)))).mono ?_); rintro e w' ⟨rfl, q0⟩; (have qc : Below wr.heap.size wr w' := by (refine next0 ?_ q0; repeat (first | (with_reducible exact Hid.out (by assumption)) | (with_reducible exact Below.refl _ _) | (with_reducible refine Below.drew ?_)))); clear q0; obtain ⟨x1, x2, x3, x4, x5, x6⟩ := Hb.out _ qc))
          all_goals
            go_wp2_with fail
            go_meet
            exact ⟨by rw [e1.out], Lib.hid qc⟩
      case rest =>
        obtain ⟨rfl, hQ2⟩ := hcut
        have D2 := Lib.hid (next0 hD.out hQ2.out)
        cases G
        · have e0 := Lib.hid (BAD.out rfl)
          have D := Lib.hid (KW.out _ D2.out)
          clear BAD T2 FB FI FA FT hT GG HXF BF HX HQ4
          go_wp2_with fail
          go_ret
          exact ⟨by rw [e0.out]; rfl, D.out⟩
        · have T3 := Lib.hid (T2.out rfl)
          clear BAD T2 FB FI FA FT hT GG HXF BF HX HQ4
          go_wp2_with fail
          go_roundw
          case rel => exact ⟨k + 1, by omega, by go_num, T3, D2⟩
          case measure => simp [intOf]; omega
    · obtain rfl : k = m := by omega
      have FT1 := Lib.hid (FT.out hT.out)
      clear FT FB hT HQ3
      generalize hwa : wr = W2 at *
      have DW := hD
      clear hwa
      go_wp2_with fail
      clear q1 q2 q3 q4 q5 q6 q7 q8 q9 q10 q11
      go_loopw [4] (fun i wr => ∃ k2 : Nat, k2 ≤ ni ∧ i = .int .i64 k2 ∧ Hid (∀ j, j < k2 → inputAt groundB rn n.inputs j = true) ∧ Hid (Below W1.heap.size W1 wr)) (fun i _ => ni - (intOf i).toNat)
      case atStart => exact ⟨0, Nat.zero_le _, rfl, Lib.hid (fun j hj => by omega), DW⟩
      case round =>
        obtain ⟨k2, hk2, rfl, hT, hD⟩ := hrel
        obtain ⟨q1, q2, q3, q4, q5, q6, q7, q8, q9, q10, q11⟩ := HQ.out wr hD.out
        by_cases hlt : k2 < ni
        · obtain ⟨x, hx⟩ : ∃ x, n.inputs[k2]? = some x := ⟨n.inputs[k2]'(by rw [HI.out]; exact hlt), by simp⟩
          obtain ⟨vx, b, o, ep, hbB, ix, hcx⟩ := (NK.out wr hD.out).inputs.at hx
          obtain ⟨q, d, ex⟩ : ∃ q d, vx = .slice q x.2.args.length d := ix.1.form
          subst ex
          have c0 : wr.cell? ⟨b, o + k2 * 3, none⟩ = some (.int .i64 x.1) := hcx 0 _ rfl
          have c1 : wr.cell? ⟨b, o + k2 * 3 + 1, none⟩ = some (.string x.2.nm) := hcx 1 _ rfl
          have c2 : wr.cell? ⟨b, o + k2 * 3 + 1 + 1, none⟩ = some (.slice q x.2.args.length d) := hcx 2 _ rfl
          have hBr := Nat.le_trans hB (KW.out wr hD.out).size
          have hbr : b < wr.heap.size := Nat.lt_of_lt_of_le hbB hBr
          have SX := Lib.hid ix.1
          have NX := Lib.hid ix.2.1
          have GG := Lib.hid (fun w' (g : Below wr.heap.size wr w') => rg_any x.2 B w' (.slice q x.2.args.length d) (Nat.le_trans hBr g.size) NX.out (SX.out.frame fun b o (hb : b < B) => g.cell (p := ⟨b, o, none⟩) (Nat.lt_of_lt_of_le hb hBr)))
          obtain ⟨F, hF⟩ : ∃ F, F = (fun y => cmpT y x.2) := ⟨_, rfl⟩
          have HXF : Hid (∀ y sv w', Below wr.heap.size wr w' → y.nm.size ≤ maxLen → SlIn (· < B) w' y.args sv → Calls Tryz.prog 84 #[.agg #[.string y.nm, sv], .agg #[.string x.2.nm, .slice q x.2.args.length d]] w' fun e w'' => e = .returned (.int .i64 (F y)) ∧ Below w'.heap.size w' w'') := Lib.hid (fun y sv w' g hy hs => by rw [hF]; exact rc_any y x.2 B w' sv (.slice q x.2.args.length d) (Nat.le_trans hBr g.size) hy NX.out hs (SX.out.frame fun b o (hb : b < B) => g.cell (p := ⟨b, o, none⟩) (Nat.lt_of_lt_of_le hb hBr)))
          have TX := Lib.hid (ip_get hx)
          obtain ⟨G, hG⟩ : ∃ G, inputAt groundB rn n.inputs k2 = G := ⟨_, rfl⟩
          have BA : Hid (G = (inB x.1 rn && (groundB x.2 && (decide (k2 = 0) || (decide ((ipAt n.inputs (k2 - 1)).1 < x.1) || (decide ((ipAt n.inputs (k2 - 1)).1 = x.1) && decide (F (ipAt n.inputs (k2 - 1)).2 < 0))))))) := Lib.hid (by rw [← hG, hF]; unfold inputAt; rw [TX.out]; rfl)
          have BAD : Hid (G = false → R = false) := Lib.hid (fun e => FI.out k2 hlt (hG.trans e))
          have T2 : Hid (G = true → ∀ j, j < k2 + 1 → inputAt groundB rn n.inputs j = true) := Lib.hid (fun e j hj => by
            by_cases ej : j = k2
            · subst ej
              exact hG.trans e
            · exact hT.out j (by omega))
          have IB : Hid (inB x.1 rn = (decide (0 ≤ x.1) && decide (x.1 < rn))) := Lib.hid rfl
          obtain ⟨W3, hW3⟩ : ∃ z, z = wr.alloc (.cells #[.int .i64 x.1, .string x.2.nm, .slice q x.2.args.length d] 60) := ⟨_, rfl⟩
          have J3 : Hid (Below wr.heap.size wr W3) := Lib.hid (by rw [hW3]; exact below_alloc _ _)
          have H3 : Hid (Has W3 wr.heap.size #[.int .i64 x.1, .string x.2.nm, .slice q x.2.args.length d]) := Lib.hid (by rw [hW3]; exact Has.new _ _ _)
          have D3 := Lib.hid (next0 hD.out J3.out)
          have G4 := Lib.hid (GG.out W3 J3.out)
          have j0 : (0 : Int) ≤ (k2 : Int) := by omega
          have j1 : (k2 : Int) < ni := by omega
          clear hx hG hF ix hcx SX NX TX GG
          generalize groundB x.2 = gx at *
          generalize inB x.1 rn = ib at *
          generalize x.1 = xr at *
          generalize x.2.nm = xn at *
          generalize x.2.args.length = xa at *
          go_upto_region 10 with fail
          rw [← hW3]
          clear hW3 c0 c1 c2 q1 q2 q3 q4 q5 q6 q7 q8 q9 q10 q11
          obtain ⟨q1, q2, q3, q4, q5, q6, q7, q8, q9, q10, q11⟩ := HQ.out W3 D3.out
          have y0 := H3.out.cell 0
          have y1 := H3.out.cell 1
          have y2 : W3.cell? ⟨wr.heap.size, 1 + 1, none⟩ = some (.slice q xa d) := H3.out.cell 2
          by_cases r0 : xr < 0
          · have e0 := Lib.hid (BAD.out (by rw [BA.out, IB.out, decide_eq_false (by omega)]; rfl))
            have D := Lib.hid (KW.out _ D3.out)
            clear BA IB BAD T2 HXF FI FA FT1
            go_wp2_with fail
            go_ret
            exact ⟨by rw [e0.out]; rfl, D.out⟩
          by_cases r1 : (rn : Int) ≤ xr
          · have e0 := Lib.hid (BAD.out (by rw [BA.out, IB.out, decide_eq_false (show ¬ xr < (rn : Int) by omega), Bool.and_false, Bool.false_and]))
            have D := Lib.hid (KW.out _ D3.out)
            clear BA IB BAD T2 HXF FI FA FT1
            go_wp2_with fail
            go_ret
            exact ⟨by rw [e0.out]; rfl, D.out⟩
          have BA2 : Hid (G = (gx && (decide (k2 = 0) || (decide ((ipAt n.inputs (k2 - 1)).1 < xr) || (decide ((ipAt n.inputs (k2 - 1)).1 = xr) && decide (F (ipAt n.inputs (k2 - 1)).2 < 0)))))) := Lib.hid (by rw [BA.out, IB.out, decide_eq_true (by omega), decide_eq_true (by omega)]; rfl)
          clear BA IB
          go_wp2_with fail
          refine G4.out.mono ?_
          rintro e w4 ⟨rfl, g4⟩
          have D4 := Lib.hid (next0 D3.out g4)
          have J4 := Lib.hid (next0 J3.out g4)
          have H4 := Lib.hid (H3.out.step0 g4)
          clear g4 y0 y1 y2 q1 q2 q3 q4 q5 q6 q7 q8 q9 q10 q11
          obtain ⟨q1, q2, q3, q4, q5, q6, q7, q8, q9, q10, q11⟩ := HQ.out w4 D4.out
          cases gx
          · have e0 := Lib.hid (BAD.out (by rw [BA2.out]; rfl))
            have D := Lib.hid (KW.out _ D4.out)
            clear BA2 BAD T2 HXF FI FA FT1
            go_wp2_with fail
            go_ret
            exact ⟨by rw [e0.out]; rfl, D.out⟩
          by_cases hk0 : k2 = 0
          · have T3 := Lib.hid (T2.out (by rw [BA2.out, decide_eq_true hk0]; rfl))
            have j2 : ¬ (0 : Int) < (k2 : Int) := by omega
            have j2n : ¬ 0 < k2 := by omega
            have j2d : decide (0 < k2) = false := decide_eq_false j2n
            clear BA2 BAD T2 HXF FI FA FT1 hk0
            go_wp2_with fail
            go_roundw
            case rel => first | exact ⟨k2 + 1, by omega, by go_num, T3, D4⟩ | (rw [ep]; (repeat (apply Exists.intro)); refine ⟨?_, rfl⟩; exact ⟨k2 + 1, by omega, by go_num, T3, D4⟩)
            case measure => simp [intOf]; omega
          · obtain ⟨y, hy⟩ : ∃ y, n.inputs[k2 - 1]? = some y := ⟨n.inputs[k2 - 1]'(by rw [HI.out]; omega), by simp⟩
            obtain ⟨vy, b', o', ep', _, iy, hcy⟩ := (NK.out w4 D4.out).inputs.at hy
            obtain ⟨q', d', ey⟩ : ∃ q d, vy = .slice q y.2.args.length d := iy.1.form
            subst ey
            rw [ep] at ep'
            injection ep' with ep'
            injection ep' with e1 e2 _
            subst e1 e2
            obtain ⟨k1, hk1⟩ : ∃ k1, k1 = k2 - 1 := ⟨_, rfl⟩
            rw [← hk1] at hcy
            have c0 : w4.cell? ⟨b, o + k1 * 3, none⟩ = some (.int .i64 y.1) := hcy 0 _ rfl
            have c1 : w4.cell? ⟨b, o + k1 * 3 + 1, none⟩ = some (.string y.2.nm) := hcy 1 _ rfl
            have c2 : w4.cell? ⟨b, o + k1 * 3 + 1 + 1, none⟩ = some (.slice q' y.2.args.length d') := hcy 2 _ rfl
            have TY := Lib.hid (ip_get hy)
            have BA3 : Hid (G = (decide (y.1 < xr) || (decide (y.1 = xr) && decide (F y.2 < 0)))) := Lib.hid (by rw [BA2.out, decide_eq_false hk0, TY.out]; rfl)
            obtain ⟨W5, hW5⟩ : ∃ z, z = w4.alloc (.cells #[.int .i64 y.1, .string y.2.nm, .slice q' y.2.args.length d'] 60) := ⟨_, rfl⟩
            have K5 : Hid (Below w4.heap.size w4 W5) := Lib.hid (by rw [hW5]; exact below_alloc _ _)
            have H5 : Hid (Has W5 w4.heap.size #[.int .i64 y.1, .string y.2.nm, .slice q' y.2.args.length d']) := Lib.hid (by rw [hW5]; exact Has.new _ _ _)
            have H6 := Lib.hid (H4.out.step0 K5.out)
            have D5 := Lib.hid (next0 D4.out K5.out)
            have hB4 := Nat.le_trans hB (KW.out w4 D4.out).size
            have CC := Lib.hid (HXF.out y.2 (.slice q' y.2.args.length d') W5 (next0 J4.out K5.out) iy.2.1 (iy.1.frame fun b o (hb : b < B) => K5.out.cell (p := ⟨b, o, none⟩) (Nat.lt_of_lt_of_le hb hB4)))
            have j2 : (0 : Int) < (k2 : Int) := by omega
            have j2n : 0 < k2 := by omega
            have j2d : decide (0 < k2) = true := decide_eq_true j2n
            have j3 : (k2 : Int) - 1 = (k1 : Int) := by omega
            have j4 : (0 : Int) ≤ (k1 : Int) := by omega
            have j5 : (k1 : Int) < ni := by omega
            have j6 : IntKind.i64.wrap ((k2 : Int) - 1) = (k1 : Int) := by rw [j3, IntKind.wrap_i64]; omega
            have j7 : IntKind.i64.wrap (k1 : Int) = (k1 : Int) := by rw [IntKind.wrap_i64]; omega
            clear hy hk1 hk0 iy hcy HXF BA2 TY FI FA FT1
            generalize F y.2 = cc at *
            generalize y.1 = yr at *
            generalize y.2.nm = yn at *
            generalize y.2.args.length = ya at *
            go_upto_region 14 with fail
            rw [← hW5]
            clear hW5 c0 c1 c2 q1 q2 q3 q4 q5 q6 q7 q8 q9 q10 q11
            obtain ⟨q1, q2, q3, q4, q5, q6, q7, q8, q9, q10, q11⟩ := HQ.out W5 D5.out
            have y0 := H6.out.cell 0
            have y1 := H6.out.cell 1
            have y2 : W5.cell? ⟨wr.heap.size, 1 + 1, none⟩ = some (.slice q xa d) := H6.out.cell 2
            have z0 := H5.out.cell 0
            have z1 := H5.out.cell 1
            have z2 : W5.cell? ⟨w4.heap.size, 1 + 1, none⟩ = some (.slice q' ya d') := H5.out.cell 2
            by_cases g1 : xr < yr
            · have e0 := Lib.hid (BAD.out (by rw [BA3.out, decide_eq_false (show ¬ yr < xr by omega), decide_eq_false (show ¬ yr = xr by omega)]; rfl))
              have D := Lib.hid (KW.out _ D5.out)
              clear BA3 BAD T2
              go_wp2_with fail
              go_ret
              exact ⟨by rw [e0.out]; rfl, D.out⟩
            by_cases g2 : yr = xr
            · have BA4 : Hid (G = decide (cc < 0)) := Lib.hid (by rw [BA3.out, decide_eq_false (show ¬ yr < xr by omega), decide_eq_true g2]; rfl)
              have i2 : (yr == xr) = true := by simp [g2]
              clear BA3 g2
              go_wp2_with fail
              refine CC.out.mono ?_
              rintro e w6 ⟨rfl, g6⟩
              have D6 := Lib.hid (next0 D5.out g6)
              clear g6 y0 y1 y2 z0 z1 z2
              by_cases hc : 0 ≤ cc
              · have e0 := Lib.hid (BAD.out (by rw [BA4.out, decide_eq_false (by omega)]))
                have D := Lib.hid (KW.out _ D6.out)
                clear BA4 BAD T2
                go_wp2_with fail
                go_ret
                exact ⟨by rw [e0.out]; rfl, D.out⟩
              · have T3 := Lib.hid (T2.out (by rw [BA4.out, decide_eq_true (by omega)]))
                clear BA4 BAD T2
                go_wp2_with fail
                go_roundw
                case rel => first | exact ⟨k2 + 1, by omega, by go_num, T3, D6⟩ | (rw [ep]; (repeat (apply Exists.intro)); refine ⟨?_, rfl⟩; exact ⟨k2 + 1, by omega, by go_num, T3, D6⟩)
                case measure => simp [intOf]; omega
            · have T3 := Lib.hid (T2.out (by rw [BA3.out, decide_eq_true (show yr < xr by omega)]; rfl))
              have i2 : (yr == xr) = false := by simp [g2]
              clear BA3 BAD T2 g2
              go_wp2_with fail
              go_roundw
              case rel => first | exact ⟨k2 + 1, by omega, by go_num, T3, D5⟩ | exact ⟨k2 + 1, by omega, by go_num, T3⟩
              case measure => simp [intOf]; omega
        · obtain rfl : k2 = ni := by omega
          have FT2 := Lib.hid (FT1.out hT.out)
          clear FT1 FI hT
          generalize hwb : wr = W7 at *
          have DX := hD
          clear hwb
          go_wp2_with fail
          clear q1 q2 q3 q4 q5 q6 q7 q8 q9 q10 q11
          go_loopw [7] (fun i wr => ∃ k3 : Nat, k3 ≤ na ∧ i = .int .i64 k3 ∧ Hid (∀ j, j < k3 → numAt n.initial k j = true) ∧ Hid (Below W1.heap.size W1 wr)) (fun i _ => na - (intOf i).toNat)
          case atStart => exact ⟨0, Nat.zero_le _, rfl, Lib.hid (fun j hj => by omega), DX⟩
          case round =>
            obtain ⟨k3, hk3, rfl, hT, hD⟩ := hrel
            obtain ⟨q1, q2, q3, q4, q5, q6, q7, q8, q9, q10, q11⟩ := HQ.out wr hD.out
            by_cases hlt : k3 < na
            · obtain ⟨y, hy⟩ : ∃ y, n.initial[k3]? = some y := ⟨n.initial[k3]'(by rw [HA.out]; exact hlt), by simp⟩
              obtain ⟨g, o2, ep, eb, _, e4⟩ := (NK.out wr hD.out).initial.at hy
              have c1 : wr.cell? ⟨g, o2 + k3, none⟩ = some (.int .i64 y) := by have := e4 0 _ rfl; simpa [KN] using this
              have AY := Lib.hid (at_get hy)
              have j1 : (k3 : Int) < na := by omega
              have j0 : (0 : Int) ≤ (k3 : Int) := by omega
              have NA : Hid (numAt n.initial k k3 = (inB y k && (decide (k3 = 0) || decide (at0 n.initial (k3 - 1) < y)))) := Lib.hid (by unfold numAt; rw [AY.out])
              have IB : Hid (inB y k = (decide (0 ≤ y) && decide (y < k))) := Lib.hid rfl
              have NF1 := Lib.hid (FA.out k3 hlt)
              obtain ⟨G, hG⟩ : ∃ G, numAt n.initial k k3 = G := ⟨_, rfl⟩
              rw [hG] at NA NF1
              have GG := Lib.hid hG
              clear hG e4
              have T2 : Hid (G = true → ∀ j, j < k3 + 1 → numAt n.initial k j = true) := Lib.hid (fun e j hj => by
                by_cases ej : j = k3
                · subst ej
                  exact GG.out.trans e
                · exact hT.out j (by omega))
              clear hy
              generalize inB y k = iy at *
              go_upto_region 19 with fail
              by_cases y0 : y < 0
              · have e0 := Lib.hid (NF1.out (by rw [NA.out, IB.out, decide_eq_false (by omega)]; rfl))
                clear NA IB NF1 T2
                go_quiet (fail)
                go_wp2_with fail
                go_ret
                exact ⟨by rw [e0.out]; rfl, KW.out _ (below_drewN hD.out _)⟩
              by_cases y1 : (k : Int) ≤ y
              · have e0 := Lib.hid (NF1.out (by rw [NA.out, IB.out, decide_eq_false (show ¬ y < (k : Int) by omega), Bool.and_false, Bool.false_and]))
                clear NA IB NF1 T2
                go_quiet (fail)
                go_wp2_with fail
                go_ret
                exact ⟨by rw [e0.out]; rfl, KW.out _ (below_drewN hD.out _)⟩
              have NA2 : Hid (G = (decide (k3 = 0) || decide (at0 n.initial (k3 - 1) < y))) := Lib.hid (by rw [NA.out, IB.out, decide_eq_true (by omega), decide_eq_true (by omega)]; rfl)
              clear NA IB
              by_cases hk0 : k3 = 0
              · have T3 := Lib.hid (T2.out (by rw [NA2.out, decide_eq_true hk0]; rfl))
                have j2 : ¬ (0 : Int) < (k3 : Int) := by omega
                have j2n : ¬ 0 < k3 := by omega
                have j2d : decide (0 < k3) = false := decide_eq_false j2n
                clear NF1 T2 NA2 hk0
                go_quiet (fail)
                go_wp2_with fail
                go_roundw
                case rel => exact ⟨k3 + 1, by omega, by go_num, T3, Lib.hid (below_drewN hD.out _)⟩
                case measure => simp [intOf]; omega
              · obtain ⟨x, hx⟩ : ∃ x, n.initial[k3 - 1]? = some x := ⟨n.initial[k3 - 1]'(by rw [HA.out]; omega), by simp⟩
                obtain ⟨g', o', ep', _, _, e5⟩ := (NK.out wr hD.out).initial.at hx
                rw [ep] at ep'
                injection ep' with ep'
                injection ep' with e1 e2 _
                subst e1 e2
                have AX := Lib.hid (at_get hx)
                obtain ⟨k1, hk1⟩ : ∃ k1, k1 = k3 - 1 := ⟨_, rfl⟩
                rw [← hk1] at e5
                have c2 : wr.cell? ⟨g, o2 + k1, none⟩ = some (.int .i64 x) := by have := e5 0 _ rfl; simpa [KN] using this
                clear e5
                have j2 : (0 : Int) < (k3 : Int) := by omega
                have j2n : 0 < k3 := by omega
                have j2d : decide (0 < k3) = true := decide_eq_true j2n
                have j3 : (k3 : Int) - 1 = (k1 : Int) := by omega
                have j4 : (0 : Int) ≤ (k1 : Int) := by omega
                have j5 : (k1 : Int) < na := by omega
                have j6 : IntKind.i64.wrap ((k3 : Int) - 1) = (k1 : Int) := by rw [j3, IntKind.wrap_i64]; omega
                have j7 : IntKind.i64.wrap (k1 : Int) = (k1 : Int) := by rw [IntKind.wrap_i64]; omega
                have NA3 : Hid (G = decide (x < y)) := Lib.hid (by rw [NA2.out, decide_eq_false hk0, AX.out]; rfl)
                clear hx hk1 hk0 NA2
                by_cases hxy : y ≤ x
                · have e0 := Lib.hid (NF1.out (by rw [NA3.out, decide_eq_false (by omega)]))
                  clear NF1 T2 NA3
                  go_quiet (fail)
                  go_wp2_with fail
                  go_ret
                  exact ⟨by rw [e0.out]; rfl, KW.out _ (below_drewN hD.out _)⟩
                · have T3 := Lib.hid (T2.out (by rw [NA3.out, decide_eq_true (by omega)]))
                  clear NF1 T2 NA3
                  go_quiet (fail)
                  go_wp2_with fail
                  go_roundw
                  case rel => exact ⟨k3 + 1, by omega, by go_num, T3, Lib.hid (below_drewN hD.out _)⟩
                  case measure => simp [intOf]; omega
            · obtain rfl : k3 = na := by omega
              have RT := Lib.hid (FT2.out hT.out)
              have D := Lib.hid (KW.out _ hD.out)
              clear FT2 FA hT
              by_cases e1 : nn = k
              · have i1 : ((nn : Int) == (k : Int)) = true := by rw [beq_iff_eq]; omega
                by_cases e2 : nl = k2
                · have i2 : ((nl : Int) == (k2 : Int)) = true := by rw [beq_iff_eq]; omega
                  have e0 : Hid (R = true) := Lib.hid (by rw [RT.out, decide_eq_true e1, decide_eq_true e2]; rfl)
                  clear e1 e2 RT
                  go_wp2_with fail
                  go_ret
                  exact ⟨by rw [e0.out]; rfl, D.out⟩
                · have i2 : ((nl : Int) == (k2 : Int)) = false := by rw [beq_eq_false_iff_ne]; omega
                  have e0 : Hid (R = false) := Lib.hid (by rw [RT.out, decide_eq_false e2, Bool.and_false])
                  clear e1 e2 RT
                  go_wp2_with fail
                  go_ret
                  exact ⟨by rw [e0.out]; rfl, D.out⟩
              · have i1 : ((nn : Int) == (k : Int)) = false := by rw [beq_eq_false_iff_ne]; omega
                have e0 : Hid (R = false) := Lib.hid (by rw [RT.out, decide_eq_false e1, Bool.false_and])
                clear e1 RT
                go_wp2_with fail
                go_ret
                exact ⟨by rw [e0.out]; rfl, D.out⟩
end NetV
end Go.Proofs.YtgbbpliihglijaaGreat
