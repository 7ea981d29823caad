/- Known: the three-valued bases of a state, the package's and the reference's. Conditions: those of the two Checks. Made by gnTk.py. -/
import Derived.Test.YtedilgnnfmplgaaDoorNetTv
import Derived.Test.YtedilgnnfmplgaaDoorNetY
namespace Go.Proofs.YtedilgnnfmplgaaDoor
open Go Go.RowKit
namespace NetTk
open Kit TermM TermI TermH NetM NetN NetK NetA NetC NetI NetMk NetOk NetEv NetS NetTn NetTt NetTm
theorem zero_set (m j : Nat) : (numV (List.replicate m 0)).set j (.int .i64 0) = numV (List.replicate m 0) := by
  rw [tnumv_set]
  congr 1
  refine List.ext_getElem? fun i => ?_
  rw [List.getElem?_set]
  by_cases e : j = i
  · subst e
    rw [if_pos rfl, List.length_replicate, List.getElem?_replicate]
  · rw [if_neg e]
theorem tset_yes {l : List Int} {c : Int} {j : Nat} (h : j < l.length) : tset l c (j : Int) = l.set j c := by
  unfold tset
  rw [if_pos (by omega), Int.toNat_natCast]
theorem tset_no {l : List Int} {c x : Int} (h : ¬ (0 ≤ x ∧ x < l.length)) : tset l c x = l := by
  unfold tset
  rw [if_neg h]
theorem kn_ok {g : Tm → Bool} {st : List Int} {n : Nt} (h : chkN g n = 0) : knN g st n = tsetL (List.replicate n.bases.length 0) 1 (st.take st.length) := by
  unfold knN
  rw [if_neg (by simpa using h), List.take_length]
theorem kn_no {g : Tm → Bool} {st : List Int} {n : Nt} (h : chkN g n ≠ 0) : knN g st n = [] := by
  unfold knN
  rw [if_pos h]
theorem rep_t3 (m : Nat) : ∀ x ∈ List.replicate m (0 : Int), T3 x := fun _ hx => Or.inl (List.eq_of_mem_replicate hx)
theorem t3_one : T3 1 := Or.inr (Or.inl rfl)
set_option maxRecDepth 100000 in
set_option maxHeartbeats 6400000 in
theorem known_any (n : Nt) (h : Nh) (st : List Int) (B : Nat) (w : World) (vs : Value) (hB : B ≤ w.heap.size) (k : NetIn (· < B) w n h) (hz : SzN n) (hs : RowE KN (· < B) w st vs) :
    Calls Tryd.prog 20 #[.agg #[.slice h.gp n.gates.length h.gc, .slice h.rp n.roles.length h.rc, .slice h.bp n.bases.length h.bc, .slice h.ip n.inputs.length h.ic, .slice h.ap n.initial.length h.ac, .slice h.np n.next.length h.nc, .slice h.lp n.legal.length h.lc, .slice h.op n.goals.length h.oc, .slice h.sp n.sees.length h.sc, .int .i64 n.last, .bool n.hid], vs] w (InsE (knN groundB st n) w) := by
  obtain ⟨W1, hW1⟩ : ∃ z, z = w.alloc (.cells #[.slice h.gp n.gates.length h.gc, .slice h.rp n.roles.length h.rc, .slice h.bp n.bases.length h.bc, .slice h.ip n.inputs.length h.ic, .slice h.ap n.initial.length h.ac, .slice h.np n.next.length h.nc, .slice h.lp n.legal.length h.lc, .slice h.op n.goals.length h.oc, .slice h.sp n.sees.length h.sc, .int .i64 n.last, .bool n.hid] 32) := ⟨_, rfl⟩
  have K1 : Hid (Below w.heap.size w W1) := Lib.hid (by rw [hW1]; exact below_alloc _ _)
  have H1 : Hid (Has W1 w.heap.size (netC n h)) := Lib.hid (by rw [hW1]; exact Has.new _ _ _)
  have hzz := K1.out.size
  have KW := Lib.hid (fun w' (q : Below W1.heap.size W1 w') => show Below w.heap.size w w' from K1.out.trans (q.mono hzz))
  have NK := Lib.hid (fun w' (q : Below W1.heap.size W1 w') => k.deep (KW.out w' q) hB)
  have HQ := Lib.hid (fun w' (q : Below W1.heap.size W1 w') => hasN (H1.out.step0 q))
  obtain ⟨psl, csl, rfl⟩ := hs.form
  have hlen : st.length ≤ maxLen := by obtain ⟨_, h1, h2⟩ := hs.cap; omega
  unfold maxLen at hlen
  have hmx : n.next.length ≤ 1000000 := hz.next
  have F1 : Hid (chkN groundB n ≠ 0 → knN groundB st n = []) := Lib.hid kn_no
  have F0 : Hid (chkN groundB n = 0 → knN groundB st n = tsetL (List.replicate n.bases.length 0) 1 (st.take st.length) ∧ n.bases.length ≤ 1000000) := Lib.hid (fun e => ⟨kn_ok e, by have := (nok e).next; omega⟩)
  have CK := Lib.hid (check_any n h B W1 (Nat.le_trans hB hzz) (NK.out W1 (Below.refl _ _)) hz)
  have IVS0 := Lib.hid (readn (hs.keep (w' := W1) fun b o (hb : b < B) => K1.out.cell (p := ⟨b, o, none⟩) (Nat.lt_of_lt_of_le hb hB)) (fun b (hb : b < B) => Nat.lt_of_lt_of_le (Nat.lt_of_lt_of_le hb hB) hzz))
  have HB := Lib.hid hB
  clear k hz hs hmx NK
  generalize knN groundB st n = S at *
  generalize chkN groundB n = c at *
  generalize hbl : st.length = lb at *
  generalize hnb : n.bases.length = m at *
  have HBL := Lib.hid hbl
  clear hbl hnb
  obtain ⟨q1, q2, q3, q4, q5, q6, q7, q8, q9, q10, q11⟩ := HQ.out W1 (Below.refl _ _)
  go_enter Tryd.func20, Tryd.ntmps20
  go_upto_region 1 with fail
  rw [← hW1]
  clear hW1
  go_wp2_with fail
  refine CK.out.mono ?_
  rintro e wx ⟨rfl, g4⟩
  have D7 := Lib.hid (next0 (Below.refl W1.heap.size W1) g4)
  have DD7 := Lib.hid (KW.out _ D7.out)
  clear g4 CK q1 q2 q3 q4 q5 q6 q7 q8 q9 q10 q11
  obtain ⟨q1, q2, q3, q4, q5, q6, q7, q8, q9, q10, q11⟩ := HQ.out wx D7.out
  by_cases hc : c = 0
  rotate_left
  · have e0 := Lib.hid (F1.out hc)
    have i1 : (c != 0) = true := by simp [hc]
    clear F1 F0 hc
    go_wp2_with fail
    go_ret
    exact InsE.no e0.out DD7.out
  have i1 : (c != 0) = false := by simp [hc]
  have F0a := Lib.hid (F0.out hc).1
  have hm := (F0.out hc).2
  clear F1 F0 hc
  obtain ⟨wm, M, O, G⟩ := make_i wx m hm
  have O0 : Hid (wm.ownsRow wx.heap.size 3 1 (.slice (some ⟨wx.heap.size, 0, none⟩) m m) m (numV (List.replicate m 0))) := Lib.hid O
  have B0 := Lib.hid ((Below.refl wx.heap.size wx).grown G (Nat.le_refl _) (fun k h => by cases h))
  have IVS := Lib.hid (fun j x (hx : st[j]? = some x) w' (q : Below wx.heap.size wx w') => IVS0.out j x hx w' (next0 D7.out q))
  have hz7 := DD7.out.size
  have TL : Hid (∀ i, (tsetL (List.replicate m 0) 1 (st.take i)).length = m) := Lib.hid (fun i => by rw [tsetl_len]; simp)
  have TN := Lib.hid (fun i x (hx : st[i]? = some x) => tsetl_next (List.replicate m 0) 1 st hx)
  have SI : Hid (∀ x ∈ S, I64 x) := Lib.hid (by rw [F0a.out]; exact fun x hx => t3_i64 (tsetl_t3 t3_one _ _ (rep_t3 m) x hx))
  clear O G IVS0
  generalize hg0 : wx.heap.size = g0 at *
  have HG0 := Lib.hid hg0
  clear hg0
  go_wp2_with fail
  clear M q1 q2 q3 q4 q5 q6 q7 q8 q9 q10 q11
  go_loopw [18] (fun i wr => ∃ k : Nat, k ≤ m ∧ i = .int .i64 k ∧ Hid (wr.ownsRow g0 3 1 (.slice (some ⟨g0, 0, none⟩) m m) m (numV (List.replicate m 0))) ∧ Hid (Below g0 wx wr)) (fun i _ => m - (intOf i).toNat)
  case atStart => exact ⟨0, Nat.zero_le _, rfl, O0, B0⟩
  case round =>
    obtain ⟨k, hk, rfl, hO, hD⟩ := hrel
    by_cases hlt : k < m
    · have j0 : (0 : Int) ≤ (k : Int) := by omega
      have j1 : (k : Int) < m := by omega
      have x1 := (hO.out.cellAt k (by omega)).trans (tnumv_get (List.getElem?_replicate.trans (if_pos hlt)))
      have x2 := hO.out.frozenAt k
      have ST := Lib.hid (hO.out.stored k (.int .i64 0))
      have OO := Lib.hid (zero_set m k ▸ ST.out.1)
      have BB := Lib.hid (hD.out.grown ST.out.2 (by have := HG0.out; have := hD.out.size; omega) (fun k h => by cases h; exact Nat.le_refl _))
      clear ST
      go_wp2_with fail
      go_roundw
      case rel => first | exact ⟨k + 1, by omega, by go_num, OO, BB⟩ | ((repeat (apply Exists.intro)); refine ⟨?_, rfl⟩; exact ⟨k + 1, by omega, by go_num, OO, BB⟩)
      case measure => simp [intOf] <;> omega
    · obtain rfl : k = m := by omega
      have O0 := Lib.hid hO.out
      have B0 := Lib.hid hD.out
      generalize hww : wr = wy at *
      clear hww hO hD
      go_wp2_with fail
      go_loopw [27] (fun i wr => ∃ j : Nat, j ≤ lb ∧ i = .int .i64 j ∧ Hid (wr.ownsRow g0 3 1 (.slice (some ⟨g0, 0, none⟩) k k) k (numV (tsetL (List.replicate k 0) 1 (st.take j)))) ∧ Hid (Below g0 wx wr)) (fun i _ => lb - (intOf i).toNat)
      case atStart => exact ⟨0, Nat.zero_le _, rfl, O0, B0⟩
      case round =>
        obtain ⟨j, hj, rfl, hO, hD⟩ := hrel
        by_cases hlj : j < lb
        · obtain ⟨x, hx⟩ : ∃ x, st[j]? = some x := ⟨st[j]'(by rw [HBL.out]; exact hlj), by simp⟩
          obtain ⟨g', o', rfl, z1⟩ := IVS.out j x hx wr hD.out
          have E1 := Lib.hid (TN.out j x hx)
          have t2 : (0 : Int) ≤ (j : Int) := by omega
          have t3 : (j : Int) < lb := by omega
          clear hx
          by_cases hx0 : 0 ≤ x
          · have d0 : decide ((0 : Int) ≤ x) = true := decide_eq_true hx0
            by_cases hx1 : x < k
            · obtain ⟨t, rfl⟩ : ∃ t : Nat, x = (t : Int) := ⟨x.toNat, by omega⟩
              have d1 : decide ((t : Int) < (k : Int)) = true := decide_eq_true hx1
              have d2 : decide (t < k) = true := decide_eq_true (by omega)
              obtain ⟨y, hy⟩ : ∃ y, (tsetL (List.replicate k 0) 1 (st.take j))[t]? = some y := ⟨_, List.getElem?_eq_getElem (by rw [TL.out]; omega)⟩
              have x1 := (hO.out.cellAt t (by omega)).trans (tnumv_get hy)
              have x2 := hO.out.frozenAt t
              have ST := Lib.hid (hO.out.stored t (.int .i64 1))
              have S1 : Hid ((numV (tsetL (List.replicate k 0) 1 (st.take j))).set t (.int .i64 1) = numV (tsetL (List.replicate k 0) 1 (st.take (j + 1)))) := Lib.hid (by rw [tnumv_set, E1.out, tset_yes (by rw [TL.out]; omega)])
              have OO := Lib.hid (S1.out ▸ ST.out.1)
              have BB := Lib.hid (hD.out.grown ST.out.2 (by have := HG0.out; have := hD.out.size; omega) (fun k h => by cases h; exact Nat.le_refl _))
              clear ST S1 E1 hy
              go_wp2_with fail
              go_roundw
              case rel => first | exact ⟨j + 1, by omega, by go_num, OO, BB⟩ | ((repeat (apply Exists.intro)); refine ⟨?_, rfl⟩; exact ⟨j + 1, by omega, by go_num, OO, BB⟩)
              case measure => simp [intOf] <;> omega
            · have d1 : decide (x < (k : Int)) = false := decide_eq_false hx1
              have OO : Hid (wr.ownsRow g0 3 1 (.slice (some ⟨g0, 0, none⟩) k k) k (numV (tsetL (List.replicate k 0) 1 (st.take (j + 1))))) := Lib.hid (by rw [E1.out, tset_no (by rw [TL.out]; omega)]; exact hO.out)
              clear E1
              go_wp2_with fail
              go_roundw
              case rel => first | exact ⟨j + 1, by omega, by go_num, OO, hD⟩ | ((repeat (apply Exists.intro)); refine ⟨?_, rfl⟩; exact ⟨j + 1, by omega, by go_num, OO, hD⟩)
              case measure => simp [intOf] <;> omega
          · have d0 : decide ((0 : Int) ≤ x) = false := decide_eq_false hx0
            have OO : Hid (wr.ownsRow g0 3 1 (.slice (some ⟨g0, 0, none⟩) k k) k (numV (tsetL (List.replicate k 0) 1 (st.take (j + 1))))) := Lib.hid (by rw [E1.out, tset_no (by rw [TL.out]; omega)]; exact hO.out)
            clear E1
            go_wp2_with fail
            go_roundw
            case rel => first | exact ⟨j + 1, by omega, by go_num, OO, hD⟩ | ((repeat (apply Exists.intro)); refine ⟨?_, rfl⟩; exact ⟨j + 1, by omega, by go_num, OO, hD⟩)
            case measure => simp [intOf] <;> omega
        · obtain rfl : j = lb := by omega
          have R7 : Hid (RowE KN (fun b => w.heap.size ≤ b ∧ b < wr.heap.size) wr S (.slice (some ⟨g0, 0, none⟩) k k)) := Lib.hid (by
            have hl := TL.out j
            have h := hO.out
            rw [← F0a.out] at hl h
            rw [← hl] at h ⊢
            exact (own_row (base := g0) h SI.out).wide fun b hb => ⟨by have := HG0.out; omega, hb.2⟩)
          have DF : Hid (Below w.heap.size w wr) := Lib.hid (KW.out _ (next0 D7.out (by rw [HG0.out]; exact hD.out)))
          go_wp2_with fail
          go_ret
          exact InsE.mk R7.out DF.out
set_option maxRecDepth 100000 in
set_option maxHeartbeats 6400000 in
theorem rknown_any (n : Nt) (h : Nh) (st : List Int) (B : Nat) (w : World) (vs : Value) (hB : B ≤ w.heap.size) (k : NetIn (· < B) w n h) (hz : SzN n) (hs : RowE KN (· < B) w st vs) :
    Calls Tryd.prog 21 #[.agg #[.slice h.gp n.gates.length h.gc, .slice h.rp n.roles.length h.rc, .slice h.bp n.bases.length h.bc, .slice h.ip n.inputs.length h.ic, .slice h.ap n.initial.length h.ac, .slice h.np n.next.length h.nc, .slice h.lp n.legal.length h.lc, .slice h.op n.goals.length h.oc, .slice h.sp n.sees.length h.sc, .int .i64 n.last, .bool n.hid], vs] w (InsE (knN groundB st n) w) := by
  obtain ⟨W1, hW1⟩ : ∃ z, z = w.alloc (.cells #[.slice h.gp n.gates.length h.gc, .slice h.rp n.roles.length h.rc, .slice h.bp n.bases.length h.bc, .slice h.ip n.inputs.length h.ic, .slice h.ap n.initial.length h.ac, .slice h.np n.next.length h.nc, .slice h.lp n.legal.length h.lc, .slice h.op n.goals.length h.oc, .slice h.sp n.sees.length h.sc, .int .i64 n.last, .bool n.hid] 32) := ⟨_, rfl⟩
  have K1 : Hid (Below w.heap.size w W1) := Lib.hid (by rw [hW1]; exact below_alloc _ _)
  have H1 : Hid (Has W1 w.heap.size (netC n h)) := Lib.hid (by rw [hW1]; exact Has.new _ _ _)
  have hzz := K1.out.size
  have KW := Lib.hid (fun w' (q : Below W1.heap.size W1 w') => show Below w.heap.size w w' from K1.out.trans (q.mono hzz))
  have NK := Lib.hid (fun w' (q : Below W1.heap.size W1 w') => k.deep (KW.out w' q) hB)
  have HQ := Lib.hid (fun w' (q : Below W1.heap.size W1 w') => hasN (H1.out.step0 q))
  obtain ⟨psl, csl, rfl⟩ := hs.form
  have hlen : st.length ≤ maxLen := by obtain ⟨_, h1, h2⟩ := hs.cap; omega
  unfold maxLen at hlen
  have hmx : n.next.length ≤ 1000000 := hz.next
  have F1 : Hid (chkN groundB n ≠ 0 → knN groundB st n = []) := Lib.hid kn_no
  have F0 : Hid (chkN groundB n = 0 → knN groundB st n = tsetL (List.replicate n.bases.length 0) 1 (st.take st.length) ∧ n.bases.length ≤ 1000000) := Lib.hid (fun e => ⟨kn_ok e, by have := (nok e).next; omega⟩)
  have CK := Lib.hid (NetY.rcheck_any n h B W1 (Nat.le_trans hB hzz) (NK.out W1 (Below.refl _ _)) hz.next hz.legal hz.goals hz.seen)
  have IVS0 := Lib.hid (readn (hs.keep (w' := W1) fun b o (hb : b < B) => K1.out.cell (p := ⟨b, o, none⟩) (Nat.lt_of_lt_of_le hb hB)) (fun b (hb : b < B) => Nat.lt_of_lt_of_le (Nat.lt_of_lt_of_le hb hB) hzz))
  have HB := Lib.hid hB
  clear k hz hs hmx NK
  generalize knN groundB st n = S at *
  generalize chkN groundB n = c at *
  generalize hbl : st.length = lb at *
  generalize hnb : n.bases.length = m at *
  have HBL := Lib.hid hbl
  clear hbl hnb
  obtain ⟨q1, q2, q3, q4, q5, q6, q7, q8, q9, q10, q11⟩ := HQ.out W1 (Below.refl _ _)
  go_enter Tryd.func21, Tryd.ntmps21
  go_upto_region 1 with fail
  rw [← hW1]
  clear hW1
  go_wp2_with fail
  refine CK.out.mono ?_
  rintro e wx ⟨rfl, g4⟩
  have D7 := Lib.hid (next0 (Below.refl W1.heap.size W1) g4)
  have DD7 := Lib.hid (KW.out _ D7.out)
  clear g4 CK q1 q2 q3 q4 q5 q6 q7 q8 q9 q10 q11
  obtain ⟨q1, q2, q3, q4, q5, q6, q7, q8, q9, q10, q11⟩ := HQ.out wx D7.out
  by_cases hc : c = 0
  rotate_left
  · have e0 := Lib.hid (F1.out hc)
    have i1 : (c != 0) = true := by simp [hc]
    clear F1 F0 hc
    go_wp2_with fail
    go_ret
    exact InsE.no e0.out DD7.out
  have i1 : (c != 0) = false := by simp [hc]
  have F0a := Lib.hid (F0.out hc).1
  have hm := (F0.out hc).2
  clear F1 F0 hc
  obtain ⟨wm, M, O, G⟩ := make_i wx m hm
  have O0 : Hid (wm.ownsRow wx.heap.size 3 1 (.slice (some ⟨wx.heap.size, 0, none⟩) m m) m (numV (List.replicate m 0))) := Lib.hid O
  have B0 := Lib.hid ((Below.refl wx.heap.size wx).grown G (Nat.le_refl _) (fun k h => by cases h))
  have IVS := Lib.hid (fun j x (hx : st[j]? = some x) w' (q : Below wx.heap.size wx w') => IVS0.out j x hx w' (next0 D7.out q))
  have hz7 := DD7.out.size
  have TL : Hid (∀ i, (tsetL (List.replicate m 0) 1 (st.take i)).length = m) := Lib.hid (fun i => by rw [tsetl_len]; simp)
  have TN := Lib.hid (fun i x (hx : st[i]? = some x) => tsetl_next (List.replicate m 0) 1 st hx)
  have SI : Hid (∀ x ∈ S, I64 x) := Lib.hid (by rw [F0a.out]; exact fun x hx => t3_i64 (tsetl_t3 t3_one _ _ (rep_t3 m) x hx))
  clear O G IVS0
  generalize hg0 : wx.heap.size = g0 at *
  have HG0 := Lib.hid hg0
  clear hg0
  go_wp2_with fail
  clear M q1 q2 q3 q4 q5 q6 q7 q8 q9 q10 q11
  go_loopw [6] (fun i wr => ∃ j : Nat, j ≤ lb ∧ i = .int .i64 j ∧ Hid (wr.ownsRow g0 3 1 (.slice (some ⟨g0, 0, none⟩) m m) m (numV (tsetL (List.replicate m 0) 1 (st.take j)))) ∧ Hid (Below g0 wx wr)) (fun i _ => lb - (intOf i).toNat)
  case atStart => exact ⟨0, Nat.zero_le _, rfl, O0, B0⟩
  case round =>
    obtain ⟨j, hj, rfl, hO, hD⟩ := hrel
    by_cases hlj : j < lb
    · obtain ⟨x, hx⟩ : ∃ x, st[j]? = some x := ⟨st[j]'(by rw [HBL.out]; exact hlj), by simp⟩
      obtain ⟨g', o', rfl, z1⟩ := IVS.out j x hx wr hD.out
      have E1 := Lib.hid (TN.out j x hx)
      have t2 : (0 : Int) ≤ (j : Int) := by omega
      have t3 : (j : Int) < lb := by omega
      clear hx
      by_cases hx0 : 0 ≤ x
      · have d0 : decide ((0 : Int) ≤ x) = true := decide_eq_true hx0
        by_cases hx1 : x < m
        · obtain ⟨t, rfl⟩ : ∃ t : Nat, x = (t : Int) := ⟨x.toNat, by omega⟩
          have d1 : decide ((t : Int) < (m : Int)) = true := decide_eq_true hx1
          have d2 : decide (t < m) = true := decide_eq_true (by omega)
          obtain ⟨y, hy⟩ : ∃ y, (tsetL (List.replicate m 0) 1 (st.take j))[t]? = some y := ⟨_, List.getElem?_eq_getElem (by rw [TL.out]; omega)⟩
          have x1 := (hO.out.cellAt t (by omega)).trans (tnumv_get hy)
          have x2 := hO.out.frozenAt t
          have ST := Lib.hid (hO.out.stored t (.int .i64 1))
          have S1 : Hid ((numV (tsetL (List.replicate m 0) 1 (st.take j))).set t (.int .i64 1) = numV (tsetL (List.replicate m 0) 1 (st.take (j + 1)))) := Lib.hid (by rw [tnumv_set, E1.out, tset_yes (by rw [TL.out]; omega)])
          have OO := Lib.hid (S1.out ▸ ST.out.1)
          have BB := Lib.hid (hD.out.grown ST.out.2 (by have := HG0.out; have := hD.out.size; omega) (fun k h => by cases h; exact Nat.le_refl _))
          clear ST S1 E1 hy
          go_wp2_with fail
          go_roundw
          case rel => first | exact ⟨j + 1, by omega, by go_num, OO, BB⟩ | ((repeat (apply Exists.intro)); refine ⟨?_, rfl⟩; exact ⟨j + 1, by omega, by go_num, OO, BB⟩)
          case measure => simp [intOf] <;> omega
        · have d1 : decide (x < (m : Int)) = false := decide_eq_false hx1
          have OO : Hid (wr.ownsRow g0 3 1 (.slice (some ⟨g0, 0, none⟩) m m) m (numV (tsetL (List.replicate m 0) 1 (st.take (j + 1))))) := Lib.hid (by rw [E1.out, tset_no (by rw [TL.out]; omega)]; exact hO.out)
          clear E1
          go_wp2_with fail
          go_roundw
          case rel => first | exact ⟨j + 1, by omega, by go_num, OO, hD⟩ | ((repeat (apply Exists.intro)); refine ⟨?_, rfl⟩; exact ⟨j + 1, by omega, by go_num, OO, hD⟩)
          case measure => simp [intOf] <;> omega
      · have d0 : decide ((0 : Int) ≤ x) = false := decide_eq_false hx0
        have OO : Hid (wr.ownsRow g0 3 1 (.slice (some ⟨g0, 0, none⟩) m m) m (numV (tsetL (List.replicate m 0) 1 (st.take (j + 1))))) := Lib.hid (by rw [E1.out, tset_no (by rw [TL.out]; omega)]; exact hO.out)
        clear E1
        go_wp2_with fail
        go_roundw
        case rel => first | exact ⟨j + 1, by omega, by go_num, OO, hD⟩ | ((repeat (apply Exists.intro)); refine ⟨?_, rfl⟩; exact ⟨j + 1, by omega, by go_num, OO, hD⟩)
        case measure => simp [intOf] <;> omega
    · obtain rfl : j = lb := by omega
      have R7 : Hid (RowE KN (fun b => w.heap.size ≤ b ∧ b < wr.heap.size) wr S (.slice (some ⟨g0, 0, none⟩) m m)) := Lib.hid (by
        have hl := TL.out j
        have h := hO.out
        rw [← F0a.out] at hl h
        rw [← hl] at h ⊢
        exact (own_row (base := g0) h SI.out).wide fun b hb => ⟨by have := HG0.out; omega, hb.2⟩)
      have DF : Hid (Below w.heap.size w wr) := Lib.hid (KW.out _ (next0 D7.out (by rw [HG0.out]; exact hD.out)))
      go_wp2_with fail
      go_ret
      exact InsE.mk R7.out DF.out
end NetTk
end Go.Proofs.YtedilgnnfmplgaaDoor
