/- Texts laid together: NetRv; NetSu; NetIh; NetVr; NetRw; NetQa. Their own heads stand before each. -/
import Derived.Test.YtgbbpliihglijaaGreatGBD
import Derived.Test.YtgbbpliihglijaaGreatGBB
import Derived.Test.YtgbbpliihglijaaGreatNetVv
import Derived.Test.YtgbbpliihglijaaGreatNetY
import Derived.Test.YtgbbpliihglijaaGreatNetLt
import Derived.Test.YtgbbpliihglijaaGreatNetDp
import Derived.Test.YtgbbpliihglijaaGreatNetDn
/- The reference's evaluation of a gate, as plain data. No conditions. -/
namespace Go.Proofs.YtgbbpliihglijaaGreat
open Go
namespace NetRv
open LexM TermM NetM NetN NetMk NetOk NetEv NetVa
def rv1 (g : Gt) : Bool := g.1 == 1 || g.1 == 4
def rv2 (st : List Int) (g : Gt) : Bool := if g.1 = 2 then decide (g.2.1 ∈ st) else rv1 g
def rv3 (st ip : List Int) (g : Gt) : Bool := if g.1 = 3 then decide (g.2.1 ∈ ip) else rv2 st g
def rvS (k : Int) (v x : Bool) : Bool := if k = 4 then v && x else if k = 5 then v || x else if k = 6 then !x else v
def rvL (k : Int) (V : List Bool) (v : Bool) (l : List Int) : Bool := l.foldl (fun v x => rvS k v (vAt V x)) v
theorem rvl_next (k : Int) (V : List Bool) (v : Bool) (l : List Int) {i : Nat} {x : Int} (h : l[i]? = some x) : rvL k V v (l.take (i + 1)) = rvS k (rvL k V v (l.take i)) (vAt V x) := by
  unfold rvL
  rw [List.take_add_one, h, List.foldl_append]
  rfl
theorem rvl_and (V : List Bool) : ∀ (l : List Int) (v : Bool), rvL 4 V v l = (v && l.all (vAt V))
  | [], v => by simp [rvL]
  | x :: l, v => by
    show rvL 4 V (v && vAt V x) l = _
    rw [rvl_and V l, List.all_cons, Bool.and_assoc]
theorem rvl_or (V : List Bool) : ∀ (l : List Int) (v : Bool), rvL 5 V v l = (v || l.any (vAt V))
  | [], v => by simp [rvL]
  | x :: l, v => by
    show rvL 5 V (v || vAt V x) l = _
    rw [rvl_or V l, List.any_cons, Bool.or_assoc]
/-- What the reference reckons is the gate's value. -/
theorem rv_all {n : Nt} {i : Nat} {g : Gt} (st ip : List Int) (V : List Bool) (ok : GOk n i g) : rvL g.1 V (rv3 st ip g) g.2.2 = gvN st ip V g := by
  obtain ⟨k, x, l⟩ := g
  have en := ok.en
  dsimp only at *
  unfold readsB at en
  unfold rv3 rv2 rv1 gvN
  dsimp only
  by_cases h4 : k = 4
  · subst h4
    rw [rvl_and]
    rfl
  by_cases h5 : k = 5
  · subst h5
    rw [rvl_or]
    rfl
  by_cases h6 : k = 6
  · subst h6
    simp only [if_true, decide_eq_true_eq] at en
    match l, en with
    | [y], _ => rfl
  · rw [if_neg h6, if_neg (by omega), decide_eq_true_eq] at en
    rw [List.eq_nil_of_length_eq_zero en]
    by_cases h2 : k = 2
    · subst h2
      rfl
    by_cases h3 : k = 3
    · subst h3
      rfl
    rw [if_neg h2, if_neg h3, if_neg h2, if_neg h3, if_neg h4, if_neg h5, if_neg h6]
    show (k == 1 || k == 4) = _
    rw [Bool.eq_iff_iff]
    simp [h4]
end NetRv
end Go.Proofs.YtgbbpliihglijaaGreat
/- The reference's Numbers: subsets as lists of numbers. No conditions. Made by gnSu.py. -/
namespace Go.Proofs.YtgbbpliihglijaaGreat
open Go Go.RowKit
namespace NetSu
open Kit LexM TermM TermI NetM NetN NetK NetA NetC
set_option maxRecDepth 100000 in
set_option maxHeartbeats 3200000 in
theorem rnums_any (l : List Int) (most : Int) (B : Nat) (w : World) (v : Value) (hB : B ≤ w.heap.size) (hl : RowE KN (· < B) w l v) :
    Calls Tryz.prog 50 #[v, .int .i64 most] w fun e w' => e = .returned (.bool (numsB l most)) ∧ Below w.heap.size w w' := by
  obtain ⟨p, c, rfl⟩ := hl.form
  have hcap : l.length ≤ maxLen := by obtain ⟨_, h1, h2⟩ := hl.cap; omega
  unfold maxLen at hcap
  have IR := Lib.hid (readn hl (fun b (h : b < B) => Nat.lt_of_lt_of_le h hB))
  have NT : Hid ((∀ j, j < l.length → numAt l most j = true) → numsB l most = true) := Lib.hid (fun h => alln_true.2 h)
  have NF : Hid (∀ j, j < l.length → numAt l most j = false → numsB l most = false) := Lib.hid (fun j hj h => alln_false hj h)
  clear hl
  generalize numsB l most = R at *
  generalize hn : l.length = m at *
  have HML := Lib.hid hn
  clear hn
  go_enter Tryz.func50, Tryz.ntmps50
  go_wp2_with fail
  go_loopw [5] (fun j wr => ∃ k : Nat, k ≤ m ∧ j = .int .i64 k ∧ Hid (∀ j, j < k → numAt l most j = true) ∧ Hid (Below w.heap.size w wr)) (fun j _ => m - (intOf j).toNat)
  case atStart => exact ⟨0, Nat.zero_le _, rfl, Lib.hid (fun j hj => by omega), Lib.hid (Below.refl _ _)⟩
  case round =>
    obtain ⟨k, hk, rfl, hT, hD⟩ := hrel
    by_cases hlt : k < m
    · obtain ⟨y, hy⟩ : ∃ y, l[k]? = some y := ⟨l[k]'(by rw [HML.out]; exact hlt), by simp⟩
      obtain ⟨g, o2, rfl, c1⟩ := IR.out k y hy wr hD.out
      have AY := Lib.hid (at_get hy)
      have j1 : (k : Int) < m := by omega
      have j0 : (0 : Int) ≤ (k : Int) := by omega
      have NA : Hid (numAt l most k = (inB y most && (decide (k = 0) || decide (at0 l (k - 1) < y)))) := Lib.hid (by unfold numAt; rw [AY.out])
      have IB : Hid (inB y most = (decide (0 ≤ y) && decide (y < most))) := Lib.hid rfl
      have NF1 := Lib.hid (NF.out k hlt)
      obtain ⟨G, hG⟩ : ∃ G, numAt l most k = G := ⟨_, rfl⟩
      rw [hG] at NA NF1
      have GG := Lib.hid hG
      clear hG
      have BAD : Hid (G = false → R = false) := Lib.hid (fun e => NF1.out e)
      have T2 : Hid (G = true → ∀ j, j < k + 1 → numAt l most j = true) := Lib.hid (fun e j hj => by
        by_cases ej : j = k
        · subst ej
          exact GG.out.trans e
        · exact hT.out j (by omega))
      have HY := Lib.hid hy
      clear hy NF1
      generalize inB y most = iy at *
      go_upto_region 4 with fail
      by_cases y0 : y < 0
      · have e0 := Lib.hid (BAD.out (by rw [NA.out, IB.out, decide_eq_false (by omega)]; rfl))
        clear NA IB BAD T2
        go_quiet (fail)
        go_wp2_with fail
        go_ret
        exact ⟨by rw [e0.out]; rfl, below_drewN hD.out _⟩
      by_cases y1 : most ≤ y
      · have e0 := Lib.hid (BAD.out (by rw [NA.out, IB.out, decide_eq_false (show ¬ y < most by omega), Bool.and_false, Bool.false_and]))
        clear NA IB BAD T2
        go_quiet (fail)
        go_wp2_with fail
        go_ret
        exact ⟨by rw [e0.out]; rfl, below_drewN hD.out _⟩
      have NA2 : Hid (G = (decide (k = 0) || decide (at0 l (k - 1) < y))) := Lib.hid (by rw [NA.out, IB.out, decide_eq_true (by omega), decide_eq_true (by omega)]; rfl)
      clear NA IB
      by_cases hk0 : k = 0
      · have T3 := Lib.hid (T2.out (by rw [NA2.out, decide_eq_true hk0]; rfl))
        have j2 : ¬ (0 : Int) < (k : Int) := by omega
        have j2n : ¬ 0 < k := by omega
        have j2d : decide (0 < k) = false := decide_eq_false j2n
        clear BAD T2 NA2 hk0
        go_quiet (fail)
        go_wp2_with fail
        go_roundw
        case rel => first | exact ⟨k + 1, by omega, by go_num, T3, Lib.hid (below_drewN hD.out _)⟩ | ((repeat (apply Exists.intro)); refine ⟨?_, rfl⟩; exact ⟨k + 1, by omega, by go_num, T3, Lib.hid (below_drewN hD.out _)⟩)
        case measure => simp [intOf]; omega
      · obtain ⟨x, hx⟩ : ∃ x, l[k - 1]? = some x := ⟨l[k - 1]'(by rw [HML.out]; omega), by simp⟩
        obtain ⟨g', o', ep, c2⟩ := IR.out (k - 1) x hx wr hD.out
        injection ep with ep
        injection ep with e1 e2 _
        subst e1 e2
        have AX := Lib.hid (at_get hx)
        obtain ⟨k1, hk1⟩ : ∃ k1, k1 = k - 1 := ⟨_, rfl⟩
        rw [← hk1] at c2
        have j2 : (0 : Int) < (k : Int) := by omega
        have j2n : 0 < k := by omega
        have j2d : decide (0 < k) = true := decide_eq_true j2n
        have j3 : (k : Int) - 1 = (k1 : Int) := by omega
        have j4 : (0 : Int) ≤ (k1 : Int) := by omega
        have j5 : (k1 : Int) < m := by omega
        have j6 : IntKind.i64.wrap ((k : Int) - 1) = (k1 : Int) := by rw [j3, IntKind.wrap_i64]; omega
        have j7 : IntKind.i64.wrap (k1 : Int) = (k1 : Int) := by rw [IntKind.wrap_i64]; omega
        have NA3 : Hid (G = decide (x < y)) := Lib.hid (by rw [NA2.out, decide_eq_false hk0, AX.out]; rfl)
        clear hx hk1 hk0 NA2
        by_cases hxy : y ≤ x
        · have e0 := Lib.hid (BAD.out (by rw [NA3.out, decide_eq_false (by omega)]))
          clear BAD T2 NA3
          go_quiet (fail)
          go_wp2_with fail
          go_ret
          exact ⟨by rw [e0.out]; rfl, below_drewN hD.out _⟩
        · have T3 := Lib.hid (T2.out (by rw [NA3.out, decide_eq_true (by omega)]))
          clear BAD T2 NA3
          go_quiet (fail)
          go_wp2_with fail
          go_roundw
          case rel => first | exact ⟨k + 1, by omega, by go_num, T3, Lib.hid (below_drewN hD.out _)⟩ | ((repeat (apply Exists.intro)); refine ⟨?_, rfl⟩; exact ⟨k + 1, by omega, by go_num, T3, Lib.hid (below_drewN hD.out _)⟩)
          case measure => simp [intOf]; omega
    · obtain rfl : k = m := by omega
      have e0 := Lib.hid (NT.out hT.out)
      go_wp2_with fail
      go_ret
      exact ⟨by rw [e0.out]; rfl, hD.out⟩
end NetSu
end Go.Proofs.YtgbbpliihglijaaGreat
/- The reference's in: whether a list has a number. No conditions. Made by gnBz.py. -/
namespace Go.Proofs.YtgbbpliihglijaaGreat
open Go Go.RowKit
namespace NetIh
open Kit LexM TermM TermI NetM NetN NetK NetA NetC
set_option maxRecDepth 100000 in
set_option maxHeartbeats 3200000 in
theorem in_any (l : List Int) (y : Int) (B : Nat) (w : World) (v : Value) (hB : B ≤ w.heap.size) (hl : RowE KN (· < B) w l v) :
    Calls Tryz.prog 51 #[v, .int .i64 y] w fun e w' => e = .returned (.bool (decide (y ∈ l))) ∧ Below w.heap.size w w' := by
  obtain ⟨p, c, rfl⟩ := hl.form
  have hcap : l.length ≤ maxLen := by obtain ⟨_, h1, h2⟩ := hl.cap; omega
  unfold maxLen at hcap
  have IR := Lib.hid (readn hl (fun b (h : b < B) => Nat.lt_of_lt_of_le h hB))
  have YES : Hid (∀ k : Nat, l[k]? = some y → decide (y ∈ l) = true) := Lib.hid (fun k h => decide_eq_true (List.mem_of_getElem? h))
  have NOT : Hid ((∀ j x, j < l.length → l[j]? = some x → x ≠ y) → decide (y ∈ l) = false) := Lib.hid (fun h => decide_eq_false (fun hm => by
    obtain ⟨j, hj⟩ := List.mem_iff_getElem?.1 hm
    exact h j y (List.getElem?_eq_some_iff.1 hj).1 hj rfl))
  clear hl
  generalize decide (y ∈ l) = R at *
  generalize hn : l.length = m at *
  have HML := Lib.hid hn
  clear hn
  go_enter Tryz.func51, Tryz.ntmps51
  go_wp2_with fail
  go_loopw [5] (fun j wr => ∃ k : Nat, k ≤ m ∧ j = .int .i64 k ∧ Hid (∀ j x, j < k → l[j]? = some x → x ≠ y) ∧ Hid (Below w.heap.size w wr)) (fun j _ => m - (intOf j).toNat)
  case atStart => exact ⟨0, Nat.zero_le _, rfl, Lib.hid (fun j x hj => by omega), Lib.hid (Below.refl _ _)⟩
  case round =>
    obtain ⟨k, hk, rfl, hT, hD⟩ := hrel
    by_cases hlt : k < m
    · obtain ⟨x, hx⟩ : ∃ x, l[k]? = some x := ⟨l[k]'(by rw [HML.out]; exact hlt), by simp⟩
      obtain ⟨g, o2, rfl, c1⟩ := IR.out k x hx wr hD.out
      have j1 : (k : Int) < m := by omega
      have j0 : (0 : Int) ≤ (k : Int) := by omega
      have HX := Lib.hid hx
      clear hx
      by_cases hxy : x = y
      · have e0 := Lib.hid (YES.out k (by rw [← hxy]; exact HX.out))
        have i1 : (x == y) = true := by simp [hxy]
        clear hxy HX
        go_wp2_with fail
        go_ret
        exact ⟨by rw [e0.out]; rfl, hD.out⟩
      · have T2 : Hid (∀ j x, j < k + 1 → l[j]? = some x → x ≠ y) := Lib.hid (fun j z hj hz => by
          by_cases e : j = k
          · subst e
            rw [HX.out] at hz
            injection hz with hz
            rw [← hz]
            exact hxy
          · exact hT.out j z (by omega) hz)
        have i1 : (x == y) = false := by simp [hxy]
        clear hxy HX
        go_wp2_with fail
        go_roundw
        case rel => exact ⟨k + 1, by omega, by go_num, T2, hD⟩
        case measure => simp [intOf]; omega
    · obtain rfl : k = m := by omega
      have e0 := Lib.hid (NOT.out hT.out)
      go_wp2_with fail
      go_ret
      exact ⟨by rw [e0.out]; rfl, hD.out⟩
end NetIh
end Go.Proofs.YtgbbpliihglijaaGreat
/- The reference's Values: the values of all gates, or the error. Conditions: those of the reference's Check. Made by gnVr.py. -/
namespace Go.Proofs.YtgbbpliihglijaaGreat
open Go Go.RowKit
namespace NetVr
open Kit LexM TermM TermI TermH NetM NetN NetK NetA NetC NetI NetMk NetNu NetOk NetEv NetBo NetMb NetS NetVa NetVv NetRv
set_option maxRecDepth 100000 in
set_option maxHeartbeats 6400000 in
theorem rvalues_any (n : Nt) (h : Nh) (st ip : List Int) (B : Nat) (w : World) (vs vi : Value) (hB : B ≤ w.heap.size) (k : NetIn (· < B) w n h) (hz : SzN n) (hs : RowE KN (· < B) w st vs) (hi : RowE KN (· < B) w ip vi) :
    Calls Tryz.prog 37 #[.agg #[.slice h.gp n.gates.length h.gc, .slice h.rp n.roles.length h.rc, .slice h.bp n.bases.length h.bc, .slice h.ip n.inputs.length h.ic, .slice h.ap n.initial.length h.ac, .slice h.np n.next.length h.nc, .slice h.lp n.legal.length h.lc, .slice h.op n.goals.length h.oc, .slice h.sp n.sees.length h.sc, .int .i64 n.last, .bool n.hid], vs, vi] w (ValsE (evV groundB st ip n) (evE groundB st ip n) w) := by
  obtain ⟨i0, hi0, hi1, hi2, hi3⟩ := info_parts Tryz.infoB
  obtain ⟨W1, hW1⟩ : ∃ z, z = w.alloc (.cells #[.slice h.gp n.gates.length h.gc, .slice h.rp n.roles.length h.rc, .slice h.bp n.bases.length h.bc, .slice h.ip n.inputs.length h.ic, .slice h.ap n.initial.length h.ac, .slice h.np n.next.length h.nc, .slice h.lp n.legal.length h.lc, .slice h.op n.goals.length h.oc, .slice h.sp n.sees.length h.sc, .int .i64 n.last, .bool n.hid] 28) := ⟨_, rfl⟩
  have K1 : Hid (Below w.heap.size w W1) := Lib.hid (by rw [hW1]; exact below_alloc _ _)
  have H1 : Hid (Has W1 w.heap.size (netC n h)) := Lib.hid (by rw [hW1]; exact Has.new _ _ _)
  have hzz := K1.out.size
  have KW := Lib.hid (fun w' (q : Below W1.heap.size W1 w') => show Below w.heap.size w w' from K1.out.trans (q.mono hzz))
  have NK := Lib.hid (fun w' (q : Below W1.heap.size W1 w') => k.deep (KW.out w' q) hB)
  have HQ := Lib.hid (fun w' (q : Below W1.heap.size W1 w') => hasN (H1.out.step0 q))
  have hlen : n.gates.length ≤ maxLen := by obtain ⟨_, h1, h2⟩ := k.gates.cap; omega
  unfold maxLen at hlen
  have F13 : Hid (chkN groundB n ≠ 0 → evE groundB st ip n = 13 ∧ evV groundB st ip n = []) := Lib.hid (fun e => ⟨ev_net e, evv_no (by rw [ev_net e]; decide)⟩)
  have F14 : Hid (chkN groundB n = 0 → numsB st n.bases.length = false → evE groundB st ip n = 14 ∧ evV groundB st ip n = []) := Lib.hid (fun e e2 => ⟨ev_st e e2, evv_no (by rw [ev_st e e2]; decide)⟩)
  have F15 : Hid (chkN groundB n = 0 → numsB st n.bases.length = true → numsB ip n.inputs.length = false → evE groundB st ip n = 15 ∧ evV groundB st ip n = []) := Lib.hid (fun e e2 e3 => ⟨ev_ip e e2 e3, evv_no (by rw [ev_ip e e2 e3]; decide)⟩)
  have F0 : Hid (chkN groundB n = 0 → numsB st n.bases.length = true → numsB ip n.inputs.length = true → evE groundB st ip n = 0 ∧ evV groundB st ip n = valsN st ip n) := Lib.hid (fun e e2 e3 => ⟨ev_ok e e2 e3, evv_ok (ev_ok e e2 e3)⟩)
  have OKN : Hid (chkN groundB n = 0 → NOk n) := Lib.hid nok
  have RS := Lib.hid (fun w' (q : Below W1.heap.size W1 w') => hs.keep (w' := w') fun b o (hb : b < B) => (KW.out w' q).cell (p := ⟨b, o, none⟩) (Nat.lt_of_lt_of_le hb hB))
  have RI := Lib.hid (fun w' (q : Below W1.heap.size W1 w') => hi.keep (w' := w') fun b o (hb : b < B) => (KW.out w' q).cell (p := ⟨b, o, none⟩) (Nat.lt_of_lt_of_le hb hB))
  have CK := Lib.hid (fun w' (q : Below W1.heap.size W1 w') => NetY.rcheck_any n h B w' (Nat.le_trans hB (KW.out w' q).size) (NK.out w' q) hz.next hz.legal hz.goals hz.seen)
  have VS := Lib.hid (fun w' (q : Below W1.heap.size W1 w') => NetSu.rnums_any st n.bases.length B w' vs (Nat.le_trans hB (KW.out w' q).size) (RS.out w' q))
  have VI := Lib.hid (fun w' (q : Below W1.heap.size W1 w') => NetSu.rnums_any ip n.inputs.length B w' vi (Nat.le_trans hB (KW.out w' q).size) (RI.out w' q))
  have IS := Lib.hid (fun y w' (q : Below W1.heap.size W1 w') => NetIh.in_any st y B w' vs (Nat.le_trans hB (KW.out w' q).size) (RS.out w' q))
  have II := Lib.hid (fun y w' (q : Below W1.heap.size W1 w') => NetIh.in_any ip y B w' vi (Nat.le_trans hB (KW.out w' q).size) (RI.out w' q))
  have HB := Lib.hid hB
  obtain ⟨psl, csl, rfl⟩ := hs.form
  obtain ⟨pil, cil, rfl⟩ := hi.form
  clear k hz hs hi RS RI
  generalize evV groundB st ip n = S at *
  generalize evE groundB st ip n = er at *
  generalize chkN groundB n = c at *
  obtain ⟨q1, q2, q3, q4, q5, q6, q7, q8, q9, q10, q11⟩ := HQ.out W1 (Below.refl _ _)
  have C1 := Lib.hid (CK.out W1 (Below.refl _ _))
  clear CK
  go_enter Tryz.func37, Tryz.ntmps37
  go_upto_region 1 with fail
  rw [← hW1]
  clear hW1
  go_wp2_with fail
  refine C1.out.mono ?_
  rintro e w4 ⟨rfl, g4⟩
  have D4 := Lib.hid (next0 (Below.refl W1.heap.size W1) g4)
  have DD4 := Lib.hid (KW.out _ D4.out)
  clear g4 C1 q1 q2 q3 q4 q5 q6 q7 q8 q9 q10 q11
  obtain ⟨q1, q2, q3, q4, q5, q6, q7, q8, q9, q10, q11⟩ := HQ.out w4 D4.out
  by_cases hc : c = 0
  rotate_left
  · have e0 := Lib.hid (F13.out hc)
    have i1 : (c != 0) = true := by simp [hc]
    clear F13 F14 F15 F0 OKN hc
    go_wp2_with fail
    refine bodyPost_ret (v := .tuple #[.slice none 0 0, .int .i64 13]) (by simp [results, Tryz.results37, go_sem]) rfl ?_
    exact ValsE.no e0.out DD4.out
  have i1 : (c != 0) = false := by simp [hc]
  have F14a := Lib.hid (F14.out hc)
  have F15a := Lib.hid (F15.out hc)
  have F0a := Lib.hid (F0.out hc)
  have OKa := Lib.hid (OKN.out hc)
  clear F13 F14 F15 F0 OKN hc
  have V1 := Lib.hid (VS.out w4 D4.out)
  clear VS
  generalize numsB st n.bases.length = b1 at *
  go_wp2_with fail
  refine V1.out.mono ?_
  rintro e w5 ⟨rfl, g5⟩
  have D5 := Lib.hid (next0 D4.out g5)
  have DD5 := Lib.hid (KW.out _ D5.out)
  clear g5 V1 i1 q1 q2 q3 q4 q5 q6 q7 q8 q9 q10 q11
  obtain ⟨q1, q2, q3, q4, q5, q6, q7, q8, q9, q10, q11⟩ := HQ.out w5 D5.out
  cases b1
  · have e0 := Lib.hid (F14a.out rfl)
    clear F14a F15a F0a
    go_wp2_with fail
    refine bodyPost_ret (v := .tuple #[.slice none 0 0, .int .i64 14]) (by simp [results, Tryz.results37, go_sem]) rfl ?_
    exact ValsE.no e0.out DD5.out
  have F15b := Lib.hid (F15a.out rfl)
  have F0b := Lib.hid (F0a.out rfl)
  clear F14a F15a F0a
  have V2 := Lib.hid (VI.out w5 D5.out)
  clear VI
  generalize numsB ip n.inputs.length = b2 at *
  go_wp2_with fail
  refine V2.out.mono ?_
  rintro e wx ⟨rfl, g6⟩
  have D7 := Lib.hid (next0 D5.out g6)
  have DD7 := Lib.hid (KW.out _ D7.out)
  clear g6 V2 q1 q2 q3 q4 q5 q6 q7 q8 q9 q10 q11
  obtain ⟨q1, q2, q3, q4, q5, q6, q7, q8, q9, q10, q11⟩ := HQ.out wx D7.out
  cases b2
  · have e0 := Lib.hid (F15b.out rfl)
    clear F15b F0b
    go_wp2_with fail
    refine bodyPost_ret (v := .tuple #[.slice none 0 0, .int .i64 15]) (by simp [results, Tryz.results37, go_sem]) rfl ?_
    exact ValsE.no e0.out DD7.out
  have E0 := Lib.hid (F0b.out rfl)
  clear F15b F0b
  have SV : Hid (S = valsN st ip n) := Lib.hid E0.out.2
  have RV : Hid (er = 0) := Lib.hid E0.out.1
  have VAL := Lib.hid (vals_all st ip n)
  have hg16 : n.gates.length ≤ 16384 := OKa.out.few
  have GTS := Lib.hid (fun k g (hg : n.gates[k]? = some g) w' (q : Below wx.heap.size wx w') => show ∃ v b o, h.gp = some ⟨b, o, none⟩ ∧ w'.cell? ⟨b, o + k * 3, none⟩ = some (.int .i64 g.1) ∧ w'.cell? ⟨b, o + k * 3 + 1, none⟩ = some (.int .i64 g.2.1) ∧ w'.cell? ⟨b, o + k * 3 + 2, none⟩ = some v ∧ RowE KN (· < B) w' g.2.2 v from by
    obtain ⟨v, b, o, e1, _, e3, e4⟩ := (NK.out w' (next0 D7.out q)).gates.at hg
    exact ⟨v, b, o, e1, by have := e4 0 _ rfl; simpa [KG] using this, by have := e4 1 _ rfl; simpa [KG] using this, by have := e4 2 _ rfl; simpa [KG] using this, e3.1⟩)
  have hz7 := DD7.out.size
  have hzB : B ≤ wx.heap.size := Nat.le_trans HB.out hz7
  have NSo := Lib.hid (nil_own wx.heap.size wx 4 1)
  clear E0
  generalize hgm : n.gates.length = m at *
  have HM := Lib.hid hgm
  clear hgm
  generalize hg0 : wx.heap.size = g0 at *
  have HG0 := Lib.hid hg0
  clear hg0
  go_wp2_with fail
  clear q1 q2 q3 q4 q5 q6 q7 q8 q9 q10 q11
  go_loopw [8, 9] (fun u8 i wr => ∃ k : Nat, k ≤ m ∧ i = .int .i64 k ∧ Hid (wr.ownsRow g0 4 1 u8 k (boolV (valsTo st ip n.gates k))) ∧ Hid (Below g0 wx wr)) (fun _ i _ => m - (intOf i).toNat)
  case atStart => exact ⟨0, Nat.zero_le _, rfl, NSo, Lib.hid (Below.refl _ _)⟩
  case round =>
    obtain ⟨k, hk, rfl, hO, hD⟩ := hrel
    obtain ⟨va, vc, rfl⟩ := form1 hO.out
    have hzr := hD.out.size
    have hzg := HG0.out
    obtain ⟨q1, q2, q3, q4, q5, q6, q7, q8, q9, q10, q11⟩ := HQ.out wr (next0 D7.out (by rw [HG0.out]; exact hD.out))
    by_cases hlt : k < m
    · obtain ⟨⟨gk, gx, gl⟩, hg⟩ : ∃ g, n.gates[k]? = some g := ⟨n.gates[k]'(by rw [HM.out]; exact hlt), by simp⟩
      obtain ⟨v, b, o, egp, c0, c1, c2, rv⟩ := GTS.out k _ hg wr hD.out
      obtain ⟨p, c, rfl⟩ := rv.form
      have hnl : gl.length ≤ maxLen := by obtain ⟨_, h1, h2⟩ := rv.cap; exact Nat.le_trans h1 h2
      unfold maxLen at hnl
      have OKG := Lib.hid (OKa.out.gate k _ hg)
      have VL : Hid ((valsTo st ip n.gates k).length = k) := Lib.hid (vals_len _ _ _ (by rw [HM.out]; exact hk))
      have RVA := Lib.hid (rv_all st ip (valsTo st ip n.gates k) OKG.out)
      have VN := Lib.hid (vals_next st ip n.gates hg)
      have RX := Lib.hid (fun i x (hx : gl[i]? = some x) => rvl_next gk (valsTo st ip n.gates k) (rv3 st ip (gk, gx, gl)) gl hx)
      have RN : Hid (rvL gk (valsTo st ip n.gates k) (rv3 st ip (gk, gx, gl)) (gl.take gl.length) = gvN st ip (valsTo st ip n.gates k) (gk, gx, gl)) := Lib.hid (by rw [List.take_length]; exact RVA.out)
      have j0 : (0 : Int) ≤ (k : Int) := by omega
      have j1 : (k : Int) < m := by omega
      obtain ⟨W3, hW3⟩ : ∃ z, z = wr.alloc (.cells #[.int .i64 gk, .int .i64 gx, .slice p gl.length c] 55) := ⟨_, rfl⟩
      have J3 : Hid (Below wr.heap.size wr W3) := Lib.hid (by rw [hW3]; exact below_alloc _ _)
      have H3 : Hid (Has W3 wr.heap.size #[.int .i64 gk, .int .i64 gx, .slice p gl.length c]) := Lib.hid (by rw [hW3]; exact Has.new _ _ _)
      have D3 : Hid (Below g0 wx W3) := Lib.hid (hD.out.trans (J3.out.mono (by omega)))
      have IR := Lib.hid (readn rv (fun b (hb : b < B) => by omega))
      have IV := Lib.hid (readb (own_rowb (l := valsTo st ip n.gates k) (by rw [VL.out]; exact hO.out)) (fun b hb => hb.2))
      have y1 := H3.out.cell 0
      have y2 := H3.out.cell 1
      have y3 := H3.out.cell 2
      have KX := Lib.hid (fun w' (q : Below g0 wx w') => show Below W1.heap.size W1 w' from next0 D7.out (by rw [HG0.out]; exact q))
      have IS1 := Lib.hid (IS.out gx W3 (KX.out _ D3.out))
      have II1 := Lib.hid (fun w' q => II.out gx w' (KX.out w' q))
      clear hg rv RVA
      generalize hgl : gl.length = nl at *
      have HGL := Lib.hid hgl
      clear hgl hzr hzg
      go_upto_region 12 with fail
      rw [← hW3]
      clear hW3 c0 c1 c2 egp q1 q2 q3 q4 q5 q6 q7 q8 q9 q10 q11
      obtain ⟨b1, hb1⟩ : ∃ b1, rv1 (gk, gx, gl) = b1 := ⟨_, rfl⟩
      have HB1 := Lib.hid hb1
      clear hb1
      go_cut [11] (fun s wz => s = .bool b1 ∧ W3 = wz)
      case first =>
        by_cases k1 : gk = 1
        · have e0 : Hid (b1 = true) := Lib.hid (by rw [← HB1.out]; unfold rv1; simp [k1])
          have i1 : (gk == 1) = true := by simp [k1]
          clear k1
          go_wp2_with fail
          go_meet
          exact ⟨by rw [e0.out], by first | rfl | trivial⟩
        have i1 : (gk == 1) = false := by simp [k1]
        have e0 : Hid (b1 = (gk == 4)) := Lib.hid (by rw [← HB1.out]; unfold rv1; simp [k1])
        clear k1
        go_wp2_with fail
        go_meet
        exact ⟨by rw [e0.out], by first | rfl | trivial⟩
      case rest =>
      obtain ⟨rfl, rfl⟩ := hcut
      go_upto_if 51 with fail
      obtain ⟨b2, hb2⟩ : ∃ b2, rv2 st (gk, gx, gl) = b2 := ⟨_, rfl⟩
      have HB2 := Lib.hid hb2
      clear hb2
      go_cut [11] (fun s wz => s = .bool b2 ∧ Hid (Below W3.heap.size W3 wz))
      case first =>
        by_cases k2 : gk = 2
        · have e0 : Hid (b2 = decide (gx ∈ st)) := Lib.hid (by rw [← HB2.out]; unfold rv2; rw [if_pos k2])
          have i2 : (gk == 2) = true := by simp [k2]
          clear k2
          generalize decide (gx ∈ st) = bd at *
          go_wp2_with fail
          refine IS1.out.mono ?_
          rintro e w5 ⟨rfl, g5⟩
          have G5 := Lib.hid g5
          clear g5
          go_wp2_with fail
          go_meet
          exact ⟨by rw [e0.out], G5⟩
        have e0 : Hid (b2 = b1) := Lib.hid (by rw [← HB2.out, ← HB1.out]; unfold rv2; rw [if_neg k2])
        have i2 : (gk == 2) = false := by simp [k2]
        clear k2
        go_wp2_with fail
        go_meet
        exact ⟨by rw [e0.out], Lib.hid (Below.refl _ _)⟩
      case rest =>
      generalize hwy : wc = wy at *
      clear hwy
      obtain ⟨rfl, hqy⟩ := hcut
      clear IS1 y1 y2 y3
      have DY : Hid (Below g0 wx wy) := Lib.hid (D3.out.trans (hqy.out.mono (by have := D3.out.size; have := HG0.out; omega)))
      have y1 := (H3.out.step0 hqy.out).cell 0
      have y2 := (H3.out.step0 hqy.out).cell 1
      have y3 := (H3.out.step0 hqy.out).cell 2
      go_upto_if 58 with fail
      obtain ⟨b3, hb3⟩ : ∃ b3, rv3 st ip (gk, gx, gl) = b3 := ⟨_, rfl⟩
      have HB3 := Lib.hid hb3
      have II2 := Lib.hid (II1.out wy DY.out)
      rw [hb3] at RX RN
      clear hb3
      go_cut [11] (fun s wz => s = .bool b3 ∧ Hid (Below wy.heap.size wy wz))
      case first =>
        by_cases k3 : gk = 3
        · have e0 : Hid (b3 = decide (gx ∈ ip)) := Lib.hid (by rw [← HB3.out]; unfold rv3; rw [if_pos k3])
          have i2 : (gk == 3) = true := by simp [k3]
          clear k3
          generalize decide (gx ∈ ip) = bd at *
          go_wp2_with fail
          refine II2.out.mono ?_
          rintro e w5 ⟨rfl, g5⟩
          have G5 := Lib.hid g5
          clear g5
          go_wp2_with fail
          go_meet
          exact ⟨by rw [e0.out], G5⟩
        have e0 : Hid (b3 = b2) := Lib.hid (by rw [← HB3.out, ← HB2.out]; unfold rv3; rw [if_neg k3])
        have i2 : (gk == 3) = false := by simp [k3]
        clear k3
        go_wp2_with fail
        go_meet
        exact ⟨by rw [e0.out], Lib.hid (Below.refl _ _)⟩
      case rest =>
      generalize hwz : wc = wz at *
      clear hwz
      obtain ⟨rfl, hqz⟩ := hcut
      clear II1 II2 y1 y2 y3
      have J4 : Hid (Below W3.heap.size W3 wz) := Lib.hid (next0 hqy.out hqz.out)
      have JZ : Hid (Below wr.heap.size wr wz) := Lib.hid (next0 J3.out J4.out)
      have DZ : Hid (Below g0 wx wz) := Lib.hid (hD.out.trans (JZ.out.mono (by have := hD.out.size; have := HG0.out; omega)))
      have OZ := Lib.hid (own_below hO.out JZ.out)
      clear hqy hqz hO
      go_wp2_with fail
      generalize hww : wr = wo at *
      clear hww
      go_loopw [11, 12] (fun s i wq => ∃ (j : Nat) (v : Bool), j ≤ nl ∧ i = .int .i64 j ∧ s = .bool v ∧ Hid (v = rvL gk (valsTo st ip n.gates k) b3 (gl.take j)) ∧ Hid (Below wz.heap.size wz wq)) (fun _ i _ => nl - (intOf i).toNat)
      case atStart => exact ⟨0, b3, Nat.zero_le _, rfl, rfl, Lib.hid rfl, Lib.hid (Below.refl _ _)⟩
      case round =>
        generalize hww : wr = wq at *
        clear hww
        obtain ⟨j, v, hj, rfl, rfl, hV, hQ⟩ := hrel
        have y1 := ((H3.out.step0 J4.out).step0 hQ.out).cell 0
        have y2 := ((H3.out.step0 J4.out).step0 hQ.out).cell 1
        have y3 := ((H3.out.step0 J4.out).step0 hQ.out).cell 2
        by_cases hlj : j < nl
        · obtain ⟨x, hx⟩ : ∃ x, gl[j]? = some x := ⟨gl[j]'(by rw [HGL.out]; exact hlj), by simp⟩
          obtain ⟨g', o', rfl, z1⟩ := IR.out j x hx wq (next0 JZ.out hQ.out)
          have hxr := OKG.out.rd x (List.mem_of_getElem? hx)
          obtain ⟨t, rfl⟩ : ∃ t : Nat, x = (t : Int) := ⟨x.toNat, by omega⟩
          obtain ⟨bx, hbx⟩ : ∃ bx, (valsTo st ip n.gates k)[t]? = some bx := ⟨_, List.getElem?_eq_getElem (by rw [VL.out]; omega)⟩
          obtain ⟨g2, o2, rfl, z2⟩ := IV.out t bx hbx wq (next0 JZ.out hQ.out)
          have VX : Hid (vAt (valsTo st ip n.gates k) (t : Int) = bx) := Lib.hid (v_get (by rw [Int.toNat_natCast]; exact hbx))
          have R1 : Hid (rvL gk (valsTo st ip n.gates k) b3 (gl.take (j + 1)) = rvS gk v bx) := Lib.hid (by rw [RX.out j _ hx, VX.out, ← hV.out])
          have t0 : (0 : Int) ≤ (t : Int) := by omega
          have t1 : (t : Int) < k := hxr.2
          have t2 : (0 : Int) ≤ (j : Int) := by omega
          have t3 : (j : Int) < nl := by omega
          clear hx hbx hxr VX
          obtain ⟨v2, hv2⟩ : ∃ v2, rvS gk v bx = v2 := ⟨_, rfl⟩
          have V2 : Hid (v2 = rvL gk (valsTo st ip n.gates k) b3 (gl.take (j + 1))) := Lib.hid (by rw [R1.out, hv2])
          have HV2 := Lib.hid hv2
          clear hv2 R1
          by_cases k4 : gk = 4
          · have e0 : Hid (v2 = (v && bx)) := Lib.hid (by rw [← HV2.out]; unfold rvS; rw [if_pos k4])
            subst k4
            clear HV2
            cases v
            · have e1 : Hid (v2 = false) := Lib.hid (by rw [e0.out]; rfl)
              go_wp2_with fail
              go_roundw
              case rel => first | exact ⟨j + 1, v2, by omega, by go_num, by rw [e1.out], V2, hQ⟩ | ((repeat (apply Exists.intro)); refine ⟨?_, rfl⟩; exact ⟨j + 1, v2, by omega, by go_num, by rw [e1.out], V2, hQ⟩)
              case measure => simp [intOf] <;> omega
            · have e1 : Hid (v2 = bx) := Lib.hid (by rw [e0.out]; rfl)
              go_wp2_with fail
              go_roundw
              case rel => first | exact ⟨j + 1, v2, by omega, by go_num, by rw [e1.out], V2, hQ⟩ | ((repeat (apply Exists.intro)); refine ⟨?_, rfl⟩; exact ⟨j + 1, v2, by omega, by go_num, by rw [e1.out], V2, hQ⟩)
              case measure => simp [intOf] <;> omega
          have i4 : (gk == 4) = false := by simp [k4]
          by_cases k5 : gk = 5
          · have e0 : Hid (v2 = (v || bx)) := Lib.hid (by rw [← HV2.out]; unfold rvS; rw [if_neg k4, if_pos k5])
            subst k5
            clear HV2 k4 i4
            cases v
            · have e1 : Hid (v2 = bx) := Lib.hid (by rw [e0.out]; rfl)
              go_wp2_with fail
              go_roundw
              case rel => first | exact ⟨j + 1, v2, by omega, by go_num, by rw [e1.out], V2, hQ⟩ | ((repeat (apply Exists.intro)); refine ⟨?_, rfl⟩; exact ⟨j + 1, v2, by omega, by go_num, by rw [e1.out], V2, hQ⟩)
              case measure => simp [intOf] <;> omega
            · have e1 : Hid (v2 = true) := Lib.hid (by rw [e0.out]; rfl)
              go_wp2_with fail
              go_roundw
              case rel => first | exact ⟨j + 1, v2, by omega, by go_num, by rw [e1.out], V2, hQ⟩ | ((repeat (apply Exists.intro)); refine ⟨?_, rfl⟩; exact ⟨j + 1, v2, by omega, by go_num, by rw [e1.out], V2, hQ⟩)
              case measure => simp [intOf] <;> omega
          have i5 : (gk == 5) = false := by simp [k5]
          by_cases k6 : gk = 6
          · have e1 : Hid (v2 = !bx) := Lib.hid (by rw [← HV2.out]; unfold rvS; rw [if_neg k4, if_neg k5, if_pos k6])
            subst k6
            clear HV2 k4 i4 k5 i5
            go_wp2_with fail
            go_roundw
            case rel => first | exact ⟨j + 1, v2, by omega, by go_num, by rw [e1.out], V2, hQ⟩ | ((repeat (apply Exists.intro)); refine ⟨?_, rfl⟩; exact ⟨j + 1, v2, by omega, by go_num, by rw [e1.out], V2, hQ⟩)
            case measure => simp [intOf] <;> omega
          have i6 : (gk == 6) = false := by simp [k6]
          have e1 : Hid (v2 = v) := Lib.hid (by rw [← HV2.out]; unfold rvS; rw [if_neg k4, if_neg k5, if_neg k6])
          clear HV2 k4 k5 k6
          go_wp2_with fail
          go_roundw
          case rel => first | exact ⟨j + 1, v2, by omega, by go_num, by rw [e1.out], V2, hQ⟩ | ((repeat (apply Exists.intro)); refine ⟨?_, rfl⟩; exact ⟨j + 1, v2, by omega, by go_num, by rw [e1.out], V2, hQ⟩)
          case measure => simp [intOf] <;> omega
        · obtain rfl : j = nl := by omega
          have bve : Hid (v = gvN st ip (valsTo st ip n.gates k) (gk, gx, gl)) := Lib.hid (by rw [hV.out, RN.out])
          have DQ : Hid (Below g0 wx wq) := Lib.hid (DZ.out.trans (hQ.out.mono (by have := DZ.out.size; have := HG0.out; omega)))
          have OQ := Lib.hid (own_below OZ.out hQ.out)
          have hzq : g0 ≤ wq.heap.size := by have := DQ.out.size; have := HG0.out; omega
          generalize v = bv at *
          have PN : Hid (∀ (v' : Value) (w' : World), w'.ownsRow g0 4 1 v' (k + 1) (boolV (valsTo st ip n.gates k) ++ [.bool bv]) → w'.ownsRow g0 4 1 v' (k + 1) (boolV (valsTo st ip n.gates (k + 1)))) := Lib.hid (fun v' w' h => by
            rw [VN.out, ← bve.out, boolv_app]
            exact h)
          have AA1 : k + 1 ≤ maxLen := by unfold maxLen; omega
          have AA2 : (k + 1) * 1 ≤ 140737488355328 := by omega
          have AA3 : g0 ≤ (wq.alloc (.cells #[.bool bv] 4)).heap.size := by simp <;> omega
          clear RX RN OKG VL VN IR IV hV bve
          go_wp2_with (at_builtin; go_must (refine wpList_append_lies _ rfl _ _ 47 rfl g0 4 i0 (.bool false) 1 1 Tryz.underlying47 hi0 hi1 hi2 hi3 rfl (by decide) (.slice va k vc) k (boolV (valsTo st ip n.gates k)) rfl (OQ.out.alloc _) ⟨wq.heap.size, 0, none⟩ 1 1 [.bool bv] rfl rfl (World.news_of_block (heap_alloc_new wq _)) (one_bool bv) (by decide) AA1 AA2 AA3 (wq.heap.size + 1) (by simp) ?_; intro g6 c6 w6 hown6 hgrow6 hat6 hlt6; have O6 := Lib.hid (PN.out _ _ hown6); have D6 := Lib.hid ((DQ.out.alloc hzq (.cells #[.bool bv] 4)).grown hgrow6 (by simp <;> omega) (fun j hj => (OQ.out.lt j hj).1)); clear hown6 hgrow6 hat6 hlt6))
          go_roundw
          case rel => first | exact ⟨k + 1, by omega, by go_num, O6, D6⟩ | ((repeat (apply Exists.intro)); refine ⟨?_, rfl⟩; exact ⟨k + 1, by omega, by go_num, O6, D6⟩)
          case measure => simp [intOf] <;> omega
    · obtain rfl : k = m := by omega
      have R7 : Hid (RowE KB (fun b => w.heap.size ≤ b ∧ b < wr.heap.size) wr S (.slice va k vc)) := Lib.hid (by
        have hl := valsn_len st ip n
        rw [HM.out] at hl
        have h := hO.out
        rw [VAL.out] at h
        rw [SV.out]
        have h2 := (own_rowb (base := g0) (l := valsN st ip n) (v := .slice va k vc) (w := wr) (by rw [hl]; exact h))
        exact h2.wide fun b hb => ⟨by omega, hb.2⟩)
      have DF : Hid (Below w.heap.size w wr) := Lib.hid (KW.out _ (next0 D7.out (by rw [HG0.out]; exact hD.out)))
      clear hzr hzg
      go_wp2_with fail
      refine bodyPost_ret (v := .tuple #[.slice va k vc, .int .i64 0]) (by simp [results, Tryz.results37, go_sem]) rfl ?_
      rw [RV.out]
      exact ValsE.mk R7.out DF.out
end NetVr
end Go.Proofs.YtgbbpliihglijaaGreat
/- The reference's Values and Next by their second names. Conditions: those of the reference's Values. Made by gnNx.py. -/
namespace Go.Proofs.YtgbbpliihglijaaGreat
open Go Go.RowKit
namespace NetRw
open Kit LexM TermM TermI TermH NetM NetN NetK NetA NetC NetI NetMk NetNu NetOk NetEv NetBo NetMb NetS NetVa NetVv NetVr
set_option maxRecDepth 100000 in
set_option maxHeartbeats 3200000 in
theorem r23values_any (n : Nt) (h : Nh) (st ip : List Int) (B : Nat) (w : World) (vs vi : Value) (hB : B ≤ w.heap.size) (k : NetIn (· < B) w n h) (hz : SzN n) (hs : RowE KN (· < B) w st vs) (hi : RowE KN (· < B) w ip vi) :
    Calls Tryz.prog 26 #[.agg #[.slice h.gp n.gates.length h.gc, .slice h.rp n.roles.length h.rc, .slice h.bp n.bases.length h.bc, .slice h.ip n.inputs.length h.ic, .slice h.ap n.initial.length h.ac, .slice h.np n.next.length h.nc, .slice h.lp n.legal.length h.lc, .slice h.op n.goals.length h.oc, .slice h.sp n.sees.length h.sc, .int .i64 n.last, .bool n.hid], vs, vi] w (ValsE (evV groundB st ip n) (evE groundB st ip n) w) := by
  obtain ⟨W1, hW1⟩ : ∃ z, z = w.alloc (.cells #[.slice h.gp n.gates.length h.gc, .slice h.rp n.roles.length h.rc, .slice h.bp n.bases.length h.bc, .slice h.ip n.inputs.length h.ic, .slice h.ap n.initial.length h.ac, .slice h.np n.next.length h.nc, .slice h.lp n.legal.length h.lc, .slice h.op n.goals.length h.oc, .slice h.sp n.sees.length h.sc, .int .i64 n.last, .bool n.hid] 28) := ⟨_, rfl⟩
  have K1 : Hid (Below w.heap.size w W1) := Lib.hid (by rw [hW1]; exact below_alloc _ _)
  have H1 : Hid (Has W1 w.heap.size (netC n h)) := Lib.hid (by rw [hW1]; exact Has.new _ _ _)
  have hzz := K1.out.size
  have KW := Lib.hid (fun w' (q : Below W1.heap.size W1 w') => show Below w.heap.size w w' from K1.out.trans (q.mono hzz))
  have NK := Lib.hid (fun w' (q : Below W1.heap.size W1 w') => k.deep (KW.out w' q) hB)
  have HQ := Lib.hid (fun w' (q : Below W1.heap.size W1 w') => hasN (H1.out.step0 q))
  have C1 := Lib.hid (rvalues_any n h st ip B W1 vs vi (Nat.le_trans hB hzz) (NK.out W1 (Below.refl _ _)) hz (hs.keep fun b o (hb : b < B) => K1.out.cell (p := ⟨b, o, none⟩) (Nat.lt_of_lt_of_le hb hB)) (hi.keep fun b o (hb : b < B) => K1.out.cell (p := ⟨b, o, none⟩) (Nat.lt_of_lt_of_le hb hB)))
  obtain ⟨psl, csl, rfl⟩ := hs.form
  obtain ⟨pil, cil, rfl⟩ := hi.form
  clear k hz hs hi
  obtain ⟨q1, q2, q3, q4, q5, q6, q7, q8, q9, q10, q11⟩ := HQ.out W1 (Below.refl _ _)
  generalize (evV groundB st ip n) = L at *
  generalize (evE groundB st ip n) = er at *
  go_enter Tryz.func26, Tryz.ntmps26
  go_upto_region 1 with fail
  rw [← hW1]
  clear hW1
  go_wp2_with fail
  refine C1.out.mono ?_
  rintro e w4 ⟨v4, rfl, hv4, g4⟩
  have DD4 := Lib.hid (KW.out _ (next0 (Below.refl W1.heap.size W1) g4))
  have R4 := Lib.hid (hv4.wide (ok' := fun b => w.heap.size ≤ b ∧ b < w4.heap.size) fun _ hb => ⟨Nat.le_trans hzz hb.1, hb.2⟩)
  obtain ⟨p4, c4, rfl⟩ := hv4.form
  clear g4 C1 hv4 q1 q2 q3 q4 q5 q6 q7 q8 q9 q10 q11
  go_wp2_with fail
  refine bodyPost_ret (v := .tuple #[.slice p4 L.length c4, .int .i64 er]) (by simp [results, Tryz.results26, go_sem]) rfl ?_
  exact ValsE.mk R4.out DD4.out
end NetRw
end Go.Proofs.YtgbbpliihglijaaGreat
/- The reference's engine in memory: New, Values, Value, Work, State. Conditions: those of the reference's Values. Made by gnQa.py. -/
namespace Go.Proofs.YtgbbpliihglijaaGreat
open Go Go.RowKit
namespace NetQa
open Kit TermM TermI TermH NetM NetN NetK NetA NetC NetI NetMk NetNu NetOk NetEv NetBo NetMb NetS NetVa NetVv NetDn NetDp NetLt
/-- The reference's engine: its block, and what it keeps lies below B. -/
structure Rg (n : Nt) (h : Nh) (B re : Nat) (st ip : List Int) (vs vi : Value) (k : Int) (w : World) : Prop where
  net : w.cell? ⟨re, 0, none⟩ = some (.slice h.gp n.gates.length h.gc) ∧ w.cell? ⟨re, 1, none⟩ = some (.slice h.rp n.roles.length h.rc) ∧ w.cell? ⟨re, 2, none⟩ = some (.slice h.bp n.bases.length h.bc) ∧ w.cell? ⟨re, 3, none⟩ = some (.slice h.ip n.inputs.length h.ic) ∧ w.cell? ⟨re, 4, none⟩ = some (.slice h.ap n.initial.length h.ac) ∧ w.cell? ⟨re, 5, none⟩ = some (.slice h.np n.next.length h.nc) ∧ w.cell? ⟨re, 6, none⟩ = some (.slice h.lp n.legal.length h.lc) ∧ w.cell? ⟨re, 7, none⟩ = some (.slice h.op n.goals.length h.oc) ∧ w.cell? ⟨re, 8, none⟩ = some (.slice h.sp n.sees.length h.sc) ∧ w.cell? ⟨re, 9, none⟩ = some (.int .i64 n.last) ∧ w.cell? ⟨re, 10, none⟩ = some (.bool n.hid)
  c11 : w.cell? ⟨re, 11, none⟩ = some vs
  c12 : w.cell? ⟨re, 12, none⟩ = some vi
  c13 : w.cell? ⟨re, 13, none⟩ = some (.int .i64 k)
  free : ∀ q : Nat, w.frozen? ⟨re, q, none⟩ = false
  lt : re < w.heap.size
  far : B ≤ re
  rs : RowE KN (· < B) w st vs
  ri : RowE KN (· < B) w ip vi
  nn : NetIn (· < B) w n h
section
variable {n : Nt} {h : Nh} {B re : Nat} {st ip : List Int} {vs vi : Value} {k : Int} {w w' : World}
/-- What changes neither the engine's block nor what lies below B. -/
theorem Rg.keep (E : Rg n h B re st ip vs vi k w) (hc : ∀ b o : Nat, b = re ∨ b < B → w'.cell? ⟨b, o, none⟩ = w.cell? ⟨b, o, none⟩ ∧ w'.frozen? ⟨b, o, none⟩ = w.frozen? ⟨b, o, none⟩) (hs : w.heap.size ≤ w'.heap.size) (hk : ∀ b o : Nat, b < B → w'.cell? ⟨b, o, none⟩ = w.cell? ⟨b, o, none⟩) (nn : NetIn (· < B) w' n h) : Rg n h B re st ip vs vi k w' := by
  obtain ⟨n0, n1, n2, n3, n4, n5, n6, n7, n8, n9, n10⟩ := E.net
  have c := fun o => (hc re o (Or.inl rfl)).1
  exact ⟨⟨(c _).trans n0, (c _).trans n1, (c _).trans n2, (c _).trans n3, (c _).trans n4, (c _).trans n5, (c _).trans n6, (c _).trans n7, (c _).trans n8, (c _).trans n9, (c _).trans n10⟩, (c _).trans E.c11, (c _).trans E.c12, (c _).trans E.c13, fun q => (hc re q (Or.inl rfl)).2.trans (E.free q), Nat.lt_of_lt_of_le E.lt hs, E.far, E.rs.keep fun b o hb => hk b o hb, E.ri.keep fun b o hb => hk b o hb, nn⟩
theorem Rg.below (E : Rg n h B re st ip vs vi k w) (q : Below w.heap.size w w') : Rg n h B re st ip vs vi k w' := by
  have hB : B ≤ w.heap.size := Nat.le_of_lt (Nat.lt_of_le_of_lt E.far E.lt)
  have hl : ∀ b, b = re ∨ b < B → b < w.heap.size := fun b hb => by
    have := E.lt
    rcases hb with rfl | hb <;> omega
  exact E.keep (fun b o hb => ⟨q.cell (p := ⟨b, o, none⟩) (hl b hb), q.frozen (p := ⟨b, o, none⟩) (hl b hb)⟩) q.size (fun b o hb => q.cell (p := ⟨b, o, none⟩) (hl b (Or.inr hb))) (E.nn.deep q hB)
/-- Others' blocks change. -/
theorem Rg.lts {ex : Nat → Prop} (E : Rg n h B re st ip vs vi k w) (q : Lt ex w w') (h1 : ¬ ex re) (h2 : ∀ b, b < B → ¬ ex b) : Rg n h B re st ip vs vi k w' := by
  have hB : B ≤ w.heap.size := Nat.le_of_lt (Nat.lt_of_le_of_lt E.far E.lt)
  have hl : ∀ b, b = re ∨ b < B → b < w.heap.size ∧ ¬ ex b := fun b hb => by
    have := E.lt
    rcases hb with rfl | hb
    · exact ⟨this, h1⟩
    · exact ⟨by omega, h2 b hb⟩
  have qb : Below B w w' := q.toBelow hB fun i hi => Nat.le_of_not_lt fun hlt => h2 i hlt hi
  exact E.keep (fun b o hb => ⟨q.cell (hl b hb).1 (hl b hb).2, q.frozen (hl b hb).1 (hl b hb).2⟩) q.size (fun b o hb => q.cell (hl b (Or.inr hb)).1 (h2 b hb)) (E.nn.deep qb (Nat.le_refl _))
/-- The work is stored. -/
theorem Rg.put {x : Int} (E : Rg n h B re st ip vs vi k w) : Rg n h B re st ip vs vi x (w.setCell ⟨re, 13, none⟩ (.int .i64 x)) := by
  have far := E.far
  obtain ⟨n0, n1, n2, n3, n4, n5, n6, n7, n8, n9, n10⟩ := E.net
  have c : ∀ b o : Nat, b ≠ re ∨ o ≠ 13 → (w.setCell ⟨re, 13, none⟩ (.int .i64 x)).cell? ⟨b, o, none⟩ = w.cell? ⟨b, o, none⟩ := fun b o hb => World.cell?_setCell_other _ _ _ _ (by intro e; injection e with e1 e2; omega)
  have cn := fun (o : Nat) (ho : o ≠ 13) => c re o (Or.inr ho)
  have lo := fun (b o : Nat) (hb : b < B) => c b o (Or.inl (by omega))
  exact ⟨⟨(cn _ (by omega)).trans n0, (cn _ (by omega)).trans n1, (cn _ (by omega)).trans n2, (cn _ (by omega)).trans n3, (cn _ (by omega)).trans n4, (cn _ (by omega)).trans n5, (cn _ (by omega)).trans n6, (cn _ (by omega)).trans n7, (cn _ (by omega)).trans n8, (cn _ (by omega)).trans n9, (cn _ (by omega)).trans n10⟩, (cn _ (by omega)).trans E.c11, (cn _ (by omega)).trans E.c12, World.cell?_setCell_same _ _ _ E.c13, fun q => by rw [World.frozen?_setCell]; exact E.free q, by have := E.lt; simp [World.setCell]; omega, far, E.rs.keep lo, E.ri.keep lo, E.nn.deep ((Below.refl B w).setCell (p := ⟨re, 13, none⟩) far _) (Nat.le_refl _)⟩
/-- The state and the inputs are stored. -/
theorem Rg.puts {st' ip' : List Int} {vs' vi' : Value} (E : Rg n h B re st ip vs vi k w) (hs : RowE KN (· < B) w st' vs') (hi : RowE KN (· < B) w ip' vi') : Rg n h B re st' ip' vs' vi' k ((w.setCell ⟨re, 11, none⟩ vs').setCell ⟨re, 12, none⟩ vi') := by
  have far := E.far
  obtain ⟨n0, n1, n2, n3, n4, n5, n6, n7, n8, n9, n10⟩ := E.net
  have c1 : ∀ b o : Nat, b ≠ re ∨ o ≠ 11 → (w.setCell ⟨re, 11, none⟩ vs').cell? ⟨b, o, none⟩ = w.cell? ⟨b, o, none⟩ := fun b o hb => World.cell?_setCell_other _ _ _ _ (by intro e; injection e with e1 e2; omega)
  have c2 : ∀ b o : Nat, b ≠ re ∨ o ≠ 12 → ((w.setCell ⟨re, 11, none⟩ vs').setCell ⟨re, 12, none⟩ vi').cell? ⟨b, o, none⟩ = (w.setCell ⟨re, 11, none⟩ vs').cell? ⟨b, o, none⟩ := fun b o hb => World.cell?_setCell_other _ _ _ _ (by intro e; injection e with e1 e2; omega)
  have cn := fun (o : Nat) (h1 : o ≠ 11) (h2 : o ≠ 12) => (c2 re o (Or.inr h2)).trans (c1 re o (Or.inr h1))
  have lo := fun (b o : Nat) (hb : b < B) => (c2 b o (Or.inl (by omega))).trans (c1 b o (Or.inl (by omega)))
  exact ⟨⟨(cn _ (by omega) (by omega)).trans n0, (cn _ (by omega) (by omega)).trans n1, (cn _ (by omega) (by omega)).trans n2, (cn _ (by omega) (by omega)).trans n3, (cn _ (by omega) (by omega)).trans n4, (cn _ (by omega) (by omega)).trans n5, (cn _ (by omega) (by omega)).trans n6, (cn _ (by omega) (by omega)).trans n7, (cn _ (by omega) (by omega)).trans n8, (cn _ (by omega) (by omega)).trans n9, (cn _ (by omega) (by omega)).trans n10⟩, (c2 re 11 (Or.inr (by omega))).trans (World.cell?_setCell_same _ _ _ E.c11), World.cell?_setCell_same _ _ _ ((c1 re 12 (Or.inr (by omega))).trans E.c12), (cn _ (by omega) (by omega)).trans E.c13, fun q => by rw [World.frozen?_setCell, World.frozen?_setCell]; exact E.free q, by have := E.lt; simp [World.setCell]; omega, far, hs.keep lo, hi.keep lo, E.nn.deep (((Below.refl B w).setCell (p := ⟨re, 11, none⟩) far _).setCell (p := ⟨re, 12, none⟩) far _) (Nat.le_refl _)⟩
end
set_option maxRecDepth 100000 in
set_option maxHeartbeats 3200000 in
/-- New. -/
theorem rnew_any (n : Nt) (h : Nh) (B : Nat) (w : World) (hB : B ≤ w.heap.size) (k : NetIn (· < B) w n h) (hz : SzN n) :
    Calls Tryz.prog 8 #[.agg #[.slice h.gp n.gates.length h.gc, .slice h.rp n.roles.length h.rc, .slice h.bp n.bases.length h.bc, .slice h.ip n.inputs.length h.ic, .slice h.ap n.initial.length h.ac, .slice h.np n.next.length h.nc, .slice h.lp n.legal.length h.lc, .slice h.op n.goals.length h.oc, .slice h.sp n.sees.length h.sc, .int .i64 n.last, .bool n.hid]] w fun e w' => Below w.heap.size w w' ∧ ((chkN groundB n ≠ 0 ∧ e = .returned (.tuple #[.pointer none, .int .i64 13])) ∨ (chkN groundB n = 0 ∧ ∃ re, e = .returned (.tuple #[.pointer (some ⟨re, 0, none⟩), .int .i64 0]) ∧ w.heap.size ≤ re ∧ Rg n h B re [] [] (.slice none 0 0) (.slice none 0 0) 0 w')) := by
  obtain ⟨W1, hW1⟩ : ∃ z, z = w.alloc (.cells #[.slice h.gp n.gates.length h.gc, .slice h.rp n.roles.length h.rc, .slice h.bp n.bases.length h.bc, .slice h.ip n.inputs.length h.ic, .slice h.ap n.initial.length h.ac, .slice h.np n.next.length h.nc, .slice h.lp n.legal.length h.lc, .slice h.op n.goals.length h.oc, .slice h.sp n.sees.length h.sc, .int .i64 n.last, .bool n.hid] 28) := ⟨_, rfl⟩
  have K1 : Hid (Below w.heap.size w W1) := Lib.hid (by rw [hW1]; exact below_alloc _ _)
  have H1 : Hid (Has W1 w.heap.size (netC n h)) := Lib.hid (by rw [hW1]; exact Has.new _ _ _)
  have hzz := K1.out.size
  have KW := Lib.hid (fun w' (q : Below W1.heap.size W1 w') => show Below w.heap.size w w' from K1.out.trans (q.mono hzz))
  have NK := Lib.hid (fun w' (q : Below W1.heap.size W1 w') => k.deep (KW.out w' q) hB)
  have HQ := Lib.hid (fun w' (q : Below W1.heap.size W1 w') => hasN (H1.out.step0 q))
  have RV := Lib.hid (NetRw.r23values_any n h [] [] B W1 (.slice none 0 0) (.slice none 0 0) (Nat.le_trans hB hzz) (NK.out W1 (Below.refl _ _)) hz (RowE.nil _ _) (RowE.nil _ _))
  have NKW := Lib.hid (fun w' (q : Below W1.heap.size W1 w') => NK.out w' q)
  have HB := Lib.hid hB
  obtain ⟨q1, q2, q3, q4, q5, q6, q7, q8, q9, q10, q11⟩ := HQ.out W1 (Below.refl _ _)
  clear k hz
  by_cases hc : chkN groundB n = 0
  · rw [ev_ok (st := []) (ip := []) hc rfl rfl] at RV
    go_enter Tryz.func8, Tryz.ntmps8
    go_upto_region 1 with fail
    rw [← hW1]
    clear hW1
    go_wp2_with fail
    refine RV.out.mono ?_
    rintro e w2 ⟨v2, rfl, r2, g2⟩
    have D2 : Hid (Below W1.heap.size W1 w2) := Lib.hid g2
    obtain ⟨p2, c2, rfl⟩ := r2.form
    clear r2 g2 RV q1 q2 q3 q4 q5 q6 q7 q8 q9 q10 q11
    obtain ⟨q1, q2, q3, q4, q5, q6, q7, q8, q9, q10, q11⟩ := HQ.out w2 D2.out
    obtain ⟨W3, hW3⟩ : ∃ z, z = w2.alloc (.cells #[.slice h.gp n.gates.length h.gc, .slice h.rp n.roles.length h.rc, .slice h.bp n.bases.length h.bc, .slice h.ip n.inputs.length h.ic, .slice h.ap n.initial.length h.ac, .slice h.np n.next.length h.nc, .slice h.lp n.legal.length h.lc, .slice h.op n.goals.length h.oc, .slice h.sp n.sees.length h.sc, .int .i64 n.last, .bool n.hid, .slice none 0 0, .slice none 0 0, .int .i64 0] 74) := ⟨_, rfl⟩
    have HE : Hid (Has W3 w2.heap.size #[.slice h.gp n.gates.length h.gc, .slice h.rp n.roles.length h.rc, .slice h.bp n.bases.length h.bc, .slice h.ip n.inputs.length h.ic, .slice h.ap n.initial.length h.ac, .slice h.np n.next.length h.nc, .slice h.lp n.legal.length h.lc, .slice h.op n.goals.length h.oc, .slice h.sp n.sees.length h.sc, .int .i64 n.last, .bool n.hid, .slice none 0 0, .slice none 0 0, .int .i64 0]) := Lib.hid (by rw [hW3]; exact Has.new _ _ _)
    have FZ : Hid (∀ q : Nat, W3.frozen? ⟨w2.heap.size, q, none⟩ = false) := Lib.hid (fun q => HE.out.free q)
    have J3 : Hid (Below w2.heap.size w2 W3) := Lib.hid (by rw [hW3]; exact below_alloc _ _)
    have DF := Lib.hid (KW.out _ (next0 D2.out J3.out))
    have HS : Hid (w.heap.size ≤ w2.heap.size) := Lib.hid (Nat.le_trans hzz D2.out.size)
    have EQ : Hid (Rg n h B w2.heap.size [] [] (.slice none 0 0) (.slice none 0 0) 0 W3) := Lib.hid ⟨⟨HE.out.cell 0, HE.out.cell 1, HE.out.cell 2, HE.out.cell 3, HE.out.cell 4, HE.out.cell 5, HE.out.cell 6, HE.out.cell 7, HE.out.cell 8, HE.out.cell 9, HE.out.cell 10⟩, HE.out.cell 11, HE.out.cell 12, HE.out.cell 13, FZ.out, HE.out.lt, Nat.le_trans HB.out HS.out, RowE.nil _ _, RowE.nil _ _, NKW.out _ (next0 D2.out J3.out)⟩
    have HC := Lib.hid hc
    clear hc HE FZ J3
    go_wp2_with fail
    refine bodyPost_ret (v := .tuple #[.pointer (some ⟨w2.heap.size, 0, none⟩), .int .i64 0]) (by simp [results, Tryz.results8, go_sem]) rfl ?_
    first
      | (rw [← hW3]; exact ⟨DF.out, Or.inr ⟨HC.out, _, rfl, HS.out, EQ.out⟩⟩)
      | exact ⟨DF.out, Or.inr ⟨HC.out, _, rfl, HS.out, EQ.out⟩⟩
  · rw [ev_net (st := []) (ip := []) hc] at RV
    have HC := Lib.hid hc
    clear hc
    go_enter Tryz.func8, Tryz.ntmps8
    go_upto_region 1 with fail
    rw [← hW1]
    clear hW1
    go_wp2_with fail
    refine RV.out.mono ?_
    rintro e w2 ⟨v2, rfl, r2, g2⟩
    have DF := Lib.hid (KW.out _ g2)
    clear r2 g2 RV q1 q2 q3 q4 q5 q6 q7 q8 q9 q10 q11
    go_wp2_with fail
    refine bodyPost_ret (v := .tuple #[.pointer none, .int .i64 13]) (by simp [results, Tryz.results8, go_sem]) rfl ?_
    exact ⟨DF.out, Or.inl ⟨HC.out, rfl⟩⟩
set_option maxRecDepth 100000 in
set_option maxHeartbeats 6400000 in
/-- Values. -/
theorem rvals_any (n : Nt) (h : Nh) (B re : Nat) (st ip : List Int) (vs vi : Value) (k : Int) (w : World) (E : Rg n h B re st ip vs vi k w) (hz : SzN n) (hck : chkN groundB n = 0) (b1 : numsB st n.bases.length = true ∧ numsB ip n.inputs.length = true) :
    Calls Tryz.prog 15 #[.pointer (some ⟨re, 0, none⟩)] w (BlE (valsN st ip n) w) := by
  obtain ⟨psl, csl, rfl⟩ := E.rs.form
  obtain ⟨pil, cil, rfl⟩ := E.ri.form
  have hB : B ≤ w.heap.size := Nat.le_of_lt (Nat.lt_of_le_of_lt E.far E.lt)
  have HC := Lib.hid (fun w' (q : Below w.heap.size w w') => show w'.cell? ⟨re, 0, none⟩ = some (.slice h.gp n.gates.length h.gc) ∧ w'.cell? ⟨re, 1, none⟩ = some (.slice h.rp n.roles.length h.rc) ∧ w'.cell? ⟨re, 2, none⟩ = some (.slice h.bp n.bases.length h.bc) ∧ w'.cell? ⟨re, 3, none⟩ = some (.slice h.ip n.inputs.length h.ic) ∧ w'.cell? ⟨re, 4, none⟩ = some (.slice h.ap n.initial.length h.ac) ∧ w'.cell? ⟨re, 5, none⟩ = some (.slice h.np n.next.length h.nc) ∧ w'.cell? ⟨re, 6, none⟩ = some (.slice h.lp n.legal.length h.lc) ∧ w'.cell? ⟨re, 7, none⟩ = some (.slice h.op n.goals.length h.oc) ∧ w'.cell? ⟨re, 8, none⟩ = some (.slice h.sp n.sees.length h.sc) ∧ w'.cell? ⟨re, 9, none⟩ = some (.int .i64 n.last) ∧ w'.cell? ⟨re, 10, none⟩ = some (.bool n.hid) ∧ w'.cell? ⟨re, 11, none⟩ = some (.slice psl st.length csl) ∧ w'.cell? ⟨re, 12, none⟩ = some (.slice pil ip.length cil) from by
    have F := E.below q
    obtain ⟨n0, n1, n2, n3, n4, n5, n6, n7, n8, n9, n10⟩ := F.net
    exact ⟨n0, n1, n2, n3, n4, n5, n6, n7, n8, n9, n10, F.c11, F.c12⟩)
  have RV := Lib.hid (fun w' (q : Below w.heap.size w w') => show Calls Tryz.prog 26 #[.agg #[.slice h.gp n.gates.length h.gc, .slice h.rp n.roles.length h.rc, .slice h.bp n.bases.length h.bc, .slice h.ip n.inputs.length h.ic, .slice h.ap n.initial.length h.ac, .slice h.np n.next.length h.nc, .slice h.lp n.legal.length h.lc, .slice h.op n.goals.length h.oc, .slice h.sp n.sees.length h.sc, .int .i64 n.last, .bool n.hid], .slice psl st.length csl, .slice pil ip.length cil] w' (ValsE (valsN st ip n) 0 w') from by
    have F := E.below q
    have := NetRw.r23values_any n h st ip B w' _ _ (Nat.le_trans hB q.size) F.nn hz F.rs F.ri
    rw [evv_ok (ev_ok hck b1.1 b1.2), ev_ok hck b1.1 b1.2] at this
    exact this)
  have hq0 : Hid (Below w.heap.size w w.drew) := Lib.hid (Below.refl _ _).drew
  have HW : Hid (re < w.heap.size) := Lib.hid E.lt
  clear E hB
  generalize valsN st ip n = V at *
  go_enter Tryz.func15, Tryz.ntmps15
  go_upto_region 1 with fail
  go_cut [3] (fun t wx => ∃ v, t = v ∧ Hid (RowE KB (fun b => w.heap.size ≤ b ∧ b < wx.heap.size) wx V v) ∧ Hid (Below w.heap.size w wx))
  case first =>
    obtain ⟨x1, x2, x3, x4, x5, x6, x7, x8, x9, x10, x11, x12, x13⟩ := HC.out _ hq0.out
    go_region_held3 (fun w' => w'.cell? ⟨re, 0, none⟩ = some (.slice h.gp n.gates.length h.gc) ∧ w'.cell? ⟨re, 1, none⟩ = some (.slice h.rp n.roles.length h.rc) ∧ w'.cell? ⟨re, 2, none⟩ = some (.slice h.bp n.bases.length h.bc) ∧ w'.cell? ⟨re, 3, none⟩ = some (.slice h.ip n.inputs.length h.ic) ∧ w'.cell? ⟨re, 4, none⟩ = some (.slice h.ap n.initial.length h.ac) ∧ w'.cell? ⟨re, 5, none⟩ = some (.slice h.np n.next.length h.nc) ∧ w'.cell? ⟨re, 6, none⟩ = some (.slice h.lp n.legal.length h.lc) ∧ w'.cell? ⟨re, 7, none⟩ = some (.slice h.op n.goals.length h.oc) ∧ w'.cell? ⟨re, 8, none⟩ = some (.slice h.sp n.sees.length h.sc) ∧ w'.cell? ⟨re, 9, none⟩ = some (.int .i64 n.last) ∧ w'.cell? ⟨re, 10, none⟩ = some (.bool n.hid) ∧ w'.cell? ⟨re, 11, none⟩ = some (.slice psl st.length csl) ∧ w'.cell? ⟨re, 12, none⟩ = some (.slice pil ip.length cil))
      (first | (with_reducible assumption) | (with_reducible exact ⟨‹_›, ‹_›, ‹_›, ‹_›, ‹_›, ‹_›, ‹_›, ‹_›, ‹_›, ‹_›, ‹_›, ‹_›, ‹_›⟩) | (with_reducible refine HC.out _ ?_; repeat (first | (with_reducible exact Hid.out (by assumption)) | (with_reducible exact Below.refl _ _) | (with_reducible refine Below.drew ?_))))
      (first | (go_at_call 26; (try go_split_ands); refine (RV.out _ (by repeat (first | (with_reducible exact Hid.out (by assumption)) | (with_reducible exact Below.refl _ _) | (with_reducible refine Below.drew ?_)))).mono ?_; rintro e w5 ⟨v5, rfl, r5, g5⟩; (have Q5 : Below w.heap.size w _ := (by repeat (first | (with_reducible exact Hid.out (by assumption)) | (with_reducible exact Below.refl _ _) | (with_reducible refine Below.drew ?_)))); (have R5 : Hid (RowE KB (fun b => w.heap.size ≤ b ∧ b < w5.heap.size) w5 V v5) := Lib.hid (r5.wide fun b hb => ⟨Nat.le_trans Q5.size hb.1, hb.2⟩)); (have D5 : Hid (Below w.heap.size w w5) := Lib.hid (next0 Q5 g5)); obtain ⟨x1, x2, x3, x4, x5, x6, x7, x8, x9, x10, x11, x12, x13⟩ := HC.out _ D5.out))
    all_goals
      go_wp2_with fail
      go_meet
      exact ⟨v5, rfl, R5, D5⟩
  case rest =>
  generalize hww : wc = w7 at *
  clear hww
  obtain ⟨v, rfl, r7, d7⟩ := hcut
  obtain ⟨p7, c7, rfl⟩ := r7.out.form
  go_wp2_with fail
  go_ret
  exact BlE.mk r7.out d7.out
set_option maxRecDepth 100000 in
/-- Value. -/
theorem rvalue_any (n : Nt) (h : Nh) (B re : Nat) (st ip : List Int) (vs vi : Value) (k g : Int) (w : World) (E : Rg n h B re st ip vs vi k w) (hz : SzN n) (hck : chkN groundB n = 0) (b1 : numsB st n.bases.length = true ∧ numsB ip n.inputs.length = true) :
    Calls Tryz.prog 17 #[.pointer (some ⟨re, 0, none⟩), .int .i64 g] w fun e w' => e = .returned (.bool (valB (valsN st ip n) g)) ∧ Below w.heap.size w w' := by
  have VX := Lib.hid (rvals_any n h B re st ip vs vi k w E hz hck b1)
  clear E
  generalize valsN st ip n = V at *
  go_enter Tryz.func17, Tryz.ntmps17
  go_wp2_with fail
  refine VX.out.mono ?_
  rintro e w2 ⟨v2, rfl, r2, g2⟩
  obtain ⟨p2, c2, rfl⟩ := r2.form
  have IV := Lib.hid (readb r2 fun b hb => hb.2)
  have D2 := Lib.hid g2
  clear r2 g2 VX
  by_cases g0 : 0 ≤ g
  rotate_left
  · have e0 : Hid (valB V g = false) := Lib.hid (by unfold valB; rw [decide_eq_false g0]; rfl)
    have i1 : ¬ g ≥ 0 := g0
    have i2 : ¬ (0 : Int) ≤ g := g0
    go_wp2_with fail
    go_ret
    exact ⟨by rw [e0.out]; rfl, D2.out⟩
  by_cases g1 : g < V.length
  rotate_left
  · have e0 : Hid (valB V g = false) := Lib.hid (by unfold valB; rw [decide_eq_false g1, Bool.false_and, Bool.and_false])
    have i1 : g ≥ 0 := g0
    go_wp2_with fail
    go_ret
    exact ⟨by rw [e0.out]; rfl, D2.out⟩
  obtain ⟨t, rfl⟩ : ∃ t : Nat, g = (t : Int) := ⟨g.toNat, by omega⟩
  obtain ⟨b, hb⟩ : ∃ b, V[t]? = some b := ⟨_, List.getElem?_eq_getElem (by omega)⟩
  obtain ⟨g', o', rfl, x2⟩ := IV.out t b hb w2 (Below.refl _ _)
  have e0 : Hid (valB V (t : Int) = b) := Lib.hid (by unfold valB; rw [decide_eq_true g0, decide_eq_true g1, Bool.true_and, Bool.true_and]; exact v_get (by rw [Int.toNat_natCast]; exact hb))
  clear hb
  generalize V.length = lV at *
  go_wp2_with fail
  go_ret
  exact ⟨by rw [e0.out]; rfl, D2.out⟩
set_option maxRecDepth 100000 in
theorem rwork_any (n : Nt) (h : Nh) (B re : Nat) (st ip : List Int) (vs vi : Value) (k : Int) (w : World) (E : Rg n h B re st ip vs vi k w) :
    Calls Tryz.prog 19 #[.pointer (some ⟨re, 0, none⟩)] w fun e w' => e = .returned (.int .i64 k) ∧ w = w' := by
  have x13 := E.c13
  clear E
  go_enter Tryz.func19, Tryz.ntmps19
  go_wp2_with fail
  go_ret
  exact ⟨rfl, rfl⟩
set_option maxRecDepth 100000 in
theorem rstate_any (n : Nt) (h : Nh) (B re : Nat) (st ip : List Int) (vs vi : Value) (k : Int) (w : World) (E : Rg n h B re st ip vs vi k w) :
    Calls Tryz.prog 12 #[.pointer (some ⟨re, 0, none⟩)] w fun e w' => e = .returned (.tuple #[vs, vi]) ∧ Below w.heap.size w w' := by
  obtain ⟨psl, csl, rfl⟩ := E.rs.form
  obtain ⟨pil, cil, rfl⟩ := E.ri.form
  have x11 := E.c11
  have x12 := E.c12
  clear E
  go_enter Tryz.func12, Tryz.ntmps12
  go_upto_region 1 with fail
  go_quiet (fail)
  go_wp2_with fail
  refine bodyPost_ret (v := .tuple #[.slice psl st.length csl, .slice pil ip.length cil]) (by simp [results, Tryz.results12, go_sem]) rfl ?_
  exact ⟨rfl, below_drewN (Below.refl _ _) _⟩
end NetQa
end Go.Proofs.YtgbbpliihglijaaGreat
