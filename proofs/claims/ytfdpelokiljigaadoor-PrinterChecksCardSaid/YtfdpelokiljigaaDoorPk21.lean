/- Texts laid together: PriE; PriF; PriL; LexQ. Their own heads stand before each. -/
import Derived.Test.YtfdpelokiljigaaDoorPk13
import Derived.Test.YtfdpelokiljigaaDoorPk20
import Derived.Test.YtfdpelokiljigaaDoorPk17
import Derived.Test.YtfdpelokiljigaaDoorPk3
/- The reference's Literal, Terms and Rule. Conditions: texts of at most 10^8 bytes, in all at most 2^47. -/
namespace Go.Proofs.YtfdpelokiljigaaDoor
open Go Go.RowKit
namespace PriE
open LexM TermM TermI Kit TermN TermU ParM ParK ParP PriM PriA PriB
theorem join_first {X : List (List UInt8)} {x : List UInt8} (sep : List UInt8) (h : X[0]? = some x) : Lib.join (X.take 1) sep = x := by
  cases X with
  | nil => simp at h
  | cons a r =>
    simp at h
    subst h
    simp [Lib.join_one]
theorem join_next {X : List (List UInt8)} {x : List UInt8} (sep : List UInt8) {k : Nat} (hk : 0 < k) (h : X[k]? = some x) : Lib.join (X.take (k + 1)) sep = Lib.join (X.take k) sep ++ (sep ++ x) := by
  cases X with
  | nil => simp at h
  | cons a r =>
    obtain ⟨j, rfl⟩ : ∃ j, k = j + 1 := ⟨k - 1, by omega⟩
    rw [List.take_succ_cons, List.take_succ_cons, Lib.join_cons, Lib.join_cons, Lib.joinTail_take_succ sep r j x (by simpa using h)]
    simp
theorem join_le (X : List (List UInt8)) (sep : List UInt8) (k : Nat) : (Lib.join (X.take k) sep).length ≤ (Lib.join X sep).length := by
  cases X with
  | nil => simp
  | cons a r =>
    cases k with
    | zero => simp [Lib.join_nil]
    | succ k =>
      rw [List.take_succ_cons, Lib.join_cons, Lib.join_cons, List.length_append, List.length_append]
      have := Lib.joinTail_take_le sep r k
      omega
theorem rtext_bs (t : Tm) (B : Nat) (w : World) (sv : Value) (hB : B ≤ w.heap.size) (h : SlIn (· < B) w t.args sv) (hz : (textT t).length ≤ 100000000) :
    Calls Tryd.prog 33 #[.agg #[.string t.nm, sv]] w fun e w' => e = .returned (.string (bs (textT t))) ∧ Gr w w' := TermTx.rtext_any t B w sv hB h hz
set_option maxHeartbeats 1600000 in
theorem rlit_any (x : Lt) (B : Nat) (w : World) (sv : Value) (hB : B ≤ w.heap.size) (h : SlIn (· < B) w x.2.args sv) (hz : (textT x.2).length ≤ 100000000) :
    Calls Tryd.prog 14 #[.agg #[.bool x.1, .string x.2.nm, sv]] w fun e w' => e = .returned (.string (bs (litX x))) ∧ Gr w w' := by
  obtain ⟨p, c, rfl⟩ := h.form
  have K := Lib.hid (rtext_bs x.2 B (w.alloc (.cells #[.bool x.1, .string x.2.nm, .slice p x.2.args.length c] 32)) (.slice p x.2.args.length c) (by simp; omega) (h.gr (Gr.alloc _ _) hB) hz)
  have X := bs_lit x
  have G0 := Lib.hid (Gr.alloc w (.cells #[.bool x.1, .string x.2.nm, .slice p x.2.args.length c] 32))
  have KB : (bs (textT x.2)).size ≤ 100000000 := by rw [bs_size]; exact hz
  have P := Lib.hid (fun w' => run_string_add_sum (P := Tryd.prog) w' ⟨#[110, 111, 116, 32]⟩ (bs (textT x.2)) (by rw [bs_size]; show 4 + (textT x.2).length ≤ _; omega))
  clear KB
  generalize bs (textT x.2) = S at *
  generalize x.1 = nt at *
  obtain ⟨nt', xt⟩ := x
  dsimp only at *
  generalize litX _ = L at *
  clear h hz
  have p1 := P.out
  cases nt
  · go_enter Tryd.func14, Tryd.ntmps14
    go_wp2_with fail
    refine K.out.mono ?_
    rintro e w2 ⟨rfl, hd⟩
    have D2 := Lib.hid (G0.out.trans hd)
    clear hd
    go_wp2_with fail
    go_ret
    exact ⟨by rw [← X]; rfl, D2.out⟩
  · go_enter Tryd.func14, Tryd.ntmps14
    go_wp2_with fail
    refine K.out.mono ?_
    rintro e w2 ⟨rfl, hd⟩
    have D2 := Lib.hid (G0.out.trans hd)
    clear hd
    go_wp2_with fail
    go_ret
    exact ⟨by rw [← X]; rfl, D2.out⟩
/-- The terms' text up to the first k. -/
def tk (X : List (List UInt8)) (k : Nat) : ByteArray := bs (Lib.join (X.take k) [44, 32])
set_option maxRecDepth 100000 in
set_option maxHeartbeats 3200000 in
theorem rterms_any (l : List Tm) (B : Nat) (w : World) (sv : Value) (hB : B ≤ w.heap.size) (h : SlIn (· < B) w l sv) (ht : ∀ t ∈ l, (textT t).length ≤ 100000000) (hz : (termsX l).length ≤ 140737488355328) :
    Calls Tryd.prog 19 #[sv] w fun e w' => e = .returned (.string (bs (termsX l))) ∧ Gr w w' := by
  obtain ⟨p, c, rfl, _, hc, hm, hR⟩ := h.row
  have hlen : l.length ≤ 9223372036854775807 := Nat.le_trans hc hm
  have HR := Lib.hid hR
  have HB := Lib.hid hB
  have TX := Lib.hid (fun k t (h : l[k]? = some t) (w' : World) (sv : Value) (hb : B ≤ w'.heap.size) (hs : SlIn (· < B) w' t.args sv) => rtext_bs t B w' sv hb hs (ht t (List.mem_of_getElem? h)))
  have TZ := Lib.hid (fun k t (h : l[k]? = some t) => (by rw [bs_size]; exact ht t (List.mem_of_getElem? h) : (bs (textT t)).size ≤ 100000000))
  have LT : ∀ k t, l[k]? = some t → (l.map textT)[k]? = some (textT t) := fun k t h => by rw [List.getElem?_map, h]; rfl
  have F1 := Lib.hid (fun t (h : l[0]? = some t) => (by unfold tk; rw [join_first [44, 32] (LT 0 t h)] : tk (l.map textT) (0 + 1) = bs (textT t)))
  have F2 := Lib.hid (fun k t (hk : 0 < k) (h : l[k]? = some t) => (by unfold tk; rw [join_next [44, 32] hk (LT k t h), ← List.append_assoc, ← bs_app, ← bs_app]; rfl : tk (l.map textT) (k + 1) = tk (l.map textT) k ++ ⟨#[44, 32]⟩ ++ bs (textT t)))
  have F0 : tk (l.map textT) 0 = ⟨#[]⟩ := rfl
  have E0 : bs (termsX l) = tk (l.map textT) l.length := by
    unfold tk termsX
    rw [show l.length = (l.map textT).length by simp, List.take_length]
  have SZ := Lib.hid (fun k => (by unfold tk; rw [bs_size]; exact Nat.le_trans (join_le _ _ k) hz : (tk (l.map textT) k).size ≤ 140737488355328))
  rw [E0]
  clear hR h ht hz LT E0 hB
  generalize l.map textT = X at *
  generalize hlm : l.length = m at *
  have HM := Lib.hid hlm
  clear hlm
  go_enter Tryd.func19, Tryd.ntmps19
  go_wp2_with fail
  go_loopw [3, 4] (fun s i wr => ∃ k : Nat, k ≤ m ∧ i = .int .i64 k ∧ s = .string (tk X k) ∧ Hid (Gr w wr)) (fun _ i _ => m - (intOf i).toNat)
  case atStart => exact ⟨0, Nat.zero_le _, rfl, by rw [F0], Lib.hid (Gr.refl _)⟩
  case round =>
    obtain ⟨k, hk, rfl, rfl, hg⟩ := hrel
    have hszk := SZ.out k
    by_cases hlt : k < m
    · obtain ⟨t, b, o, q, d, ht, rfl, hb, c1, c2, hs, hts⟩ := (HR.out.gr hg.out HB.out) k (by rw [HM.out]; exact hlt)
      have IT := Lib.hid (TX.out k t ht wr _ (Nat.le_trans HB.out hg.out.size) hs)
      have hzt := TZ.out k t ht
      clear hs hts
      by_cases hk0 : k = 0
      · subst hk0
        simp only [Nat.zero_mul, Nat.add_zero] at c1 c2
        have NW : tk X (0 + 1) = tk X 0 ++ bs (textT t) := by rw [F1.out t ht, F0]; exact (ByteArray.empty_append).symm
        have NW := Lib.hid NW
        clear ht F0
        generalize bs (textT t) = T at *
        generalize tk X 0 = P at *
        generalize t.nm = tn at *
        generalize t.args.length = ta at *
        go_wp2_with fail
        refine IT.out.mono ?_
        rintro e w2 ⟨rfl, g2⟩
        have G2 := Lib.hid (hg.out.trans g2)
        clear g2
        go_wp2_with fail
        go_roundw
        case rel => exact ⟨0 + 1, by omega, by go_num, by rw [NW.out], G2⟩
        case measure => simp [intOf]; omega
      · have NW := Lib.hid (F2.out k t (by omega) ht)
        have hk1 : 0 < k := by omega
        clear ht hk0
        generalize bs (textT t) = T at *
        generalize tk X k = P at *
        generalize t.nm = tn at *
        generalize t.args.length = ta at *
        have hzs : (P ++ ⟨#[44, 32]⟩ : ByteArray).size ≤ 140737488355330 := by rw [ByteArray.size_append]; have : (⟨#[44, 32]⟩ : ByteArray).size = 2 := rfl; omega
        have p1 := fun w' => run_string_add_sum (P := Tryd.prog) w' P ⟨#[44, 32]⟩ (by show _ + 2 ≤ _; omega)
        have p2 := fun w' => run_string_add_sum (P := Tryd.prog) w' (P ++ ⟨#[44, 32]⟩) T (by omega)
        go_wp2_with fail
        refine IT.out.mono ?_
        rintro e w2 ⟨rfl, g2⟩
        have G2 := Lib.hid (hg.out.trans g2)
        clear g2
        go_wp2_with fail
        go_roundw
        case rel => exact ⟨k + 1, by omega, by go_num, by rw [NW.out], G2⟩
        case measure => simp [intOf]; omega
    · obtain rfl : k = m := by omega
      generalize hP : tk X k = P at *
      go_wp2_with fail
      go_ret
      exact ⟨congrArg (fun z => Ending.returned (.string z)) hP.symm, hg.out⟩
end PriE
end Go.Proofs.YtfdpelokiljigaaDoor
/- The reference's Rule. Conditions: texts of at most 10^8 bytes, in all at most 2^47. -/
namespace Go.Proofs.YtfdpelokiljigaaDoor
open Go Go.RowKit
namespace PriF
open LexM TermM TermI Kit TermN TermU ParM ParK ParP PriM PriA PriB PriE
/-- The rule's text up to the first k literals. -/
def rk (t : Tm) (X : List (List UInt8)) (k : Nat) : ByteArray := bs (textT t ++ (if k = 0 then [] else [32, 105, 102, 32] ++ Lib.join (X.take k) [32, 97, 110, 100, 32]))
theorem rk_zero (t : Tm) (X : List (List UInt8)) : rk t X 0 = bs (textT t) := by simp [rk]
theorem rk_first {X : List (List UInt8)} {x : List UInt8} (t : Tm) (h : X[0]? = some x) : rk t X (0 + 1) = rk t X 0 ++ ⟨#[32, 105, 102, 32]⟩ ++ bs x := by
  rw [rk_zero, show (⟨#[32, 105, 102, 32]⟩ : ByteArray) = bs [32, 105, 102, 32] from rfl, bs_app, bs_app]
  unfold rk
  rw [if_neg (by omega), join_first _ h, List.append_assoc]
theorem rk_next {X : List (List UInt8)} {x : List UInt8} (t : Tm) {k : Nat} (hk : 0 < k) (h : X[k]? = some x) : rk t X (k + 1) = rk t X k ++ ⟨#[32, 97, 110, 100, 32]⟩ ++ bs x := by
  unfold rk
  rw [if_neg (by omega), if_neg (by omega), show (⟨#[32, 97, 110, 100, 32]⟩ : ByteArray) = bs [32, 97, 110, 100, 32] from rfl, bs_app, bs_app, join_next _ hk h]
  simp
theorem rk_end (t : Tm) (l : List Lt) : rk t (l.map litX) l.length ++ ⟨#[46]⟩ = bs (ruleX (t, l)) := by
  rw [show (⟨#[46]⟩ : ByteArray) = bs [46] from rfl]
  unfold rk ruleX bodyX
  rw [bs_app]
  cases l with
  | nil => simp
  | cons a r =>
    rw [if_neg (by simp), show (a :: r).length = ((a :: r).map litX).length by simp, List.take_length]
    simp
theorem rk_size (t : Tm) (l : List Lt) (h : (textT t).length ≤ 100000000) (hz : (bodyX l).length ≤ 140737488355328) (k : Nat) : (rk t (l.map litX) k).size ≤ 140737588355332 := by
  have := join_le (l.map litX) [32, 97, 110, 100, 32] k
  unfold bodyX at hz
  unfold rk
  rw [bs_size, List.length_append]
  split
  · simp; omega
  · rw [List.length_append]; simp only [List.length_cons, List.length_nil]; omega
set_option maxRecDepth 100000 in
set_option maxHeartbeats 3200000 in
theorem rrule_any (r : Rl) (B : Nat) (w : World) (sa sl : Value) (hB : B ≤ w.heap.size) (ha : SlIn (· < B) w r.1.args sa) (hl : LIn (· < B) w r.2 sl) (hz : Sm r) :
    Calls Tryd.prog 16 #[.agg #[.string r.1.nm, sa, sl]] w fun e w' => e = .returned (.string (bs (ruleX r))) ∧ Gr w w' := by
  obtain ⟨p, c, rfl⟩ := ha.form
  obtain ⟨p', c', rfl, hc, hm, hR⟩ := LIn.row hl
  obtain ⟨t, l⟩ := r
  obtain ⟨z1, _, z3, z4⟩ := hz
  dsimp only at *
  have hlen : l.length ≤ 9223372036854775807 := Nat.le_trans hc hm
  have HR := Lib.hid hR
  have HB := Lib.hid hB
  have HA := Lib.hid (rtext_bs t B (w.alloc (.cells #[.string t.nm, .slice p t.args.length c, .slice p' l.length c'] 27)) (.slice p t.args.length c) (Nat.le_trans hB (Gr.alloc _ _).size) (ha.gr (Gr.alloc _ _) hB) z1)
  have TX := Lib.hid (fun k x (h : l[k]? = some x) (w' : World) (sv : Value) (hb : B ≤ w'.heap.size) (hs : SlIn (· < B) w' x.2.args sv) => rlit_any x B w' sv hb hs (z3 x (List.mem_of_getElem? h)))
  have TZ := Lib.hid (fun k x (h : l[k]? = some x) => (by rw [bs_size]; have := z3 x (List.mem_of_getElem? h); unfold litX; rw [List.length_append]; split <;> simp <;> omega : (bs (litX x)).size ≤ 100000004))
  have LT : ∀ k x, l[k]? = some x → (l.map litX)[k]? = some (litX x) := fun k t h => by rw [List.getElem?_map, h]; rfl
  have F0 := rk_zero t (l.map litX)
  have F1 := Lib.hid (fun x (h : l[0]? = some x) => rk_first t (LT 0 x h))
  have F2 := Lib.hid (fun k x (hk : 0 < k) (h : l[k]? = some x) => rk_next t hk (LT k x h))
  have E0 := rk_end t l
  have SZ := Lib.hid (fun k => rk_size t l z1 z4 k)
  have H0 := Lib.hid (Has.new w 27 #[.string t.nm, .slice p t.args.length c, .slice p' l.length c'])
  have G0 := Lib.hid (Gr.alloc w (.cells #[.string t.nm, .slice p t.args.length c, .slice p' l.length c'] 27))
  have HX := Lib.hid (fun (w' : World) (g : Gr (w.alloc (.cells #[.string t.nm, .slice p t.args.length c, .slice p' l.length c'] 27)) w') => H0.out.below g.1 (by simp))
  have RE : Hid (rk t (l.map litX) l.length ++ ⟨#[46]⟩ = bs (ruleX (t, l))) := Lib.hid E0
  clear hR ha hl z1 z3 z4 LT hB E0 H0
  generalize bs (ruleX (t, l)) = R at *
  generalize l.map litX = X at *
  rw [← F0] at HA
  generalize rk t X = rkX at *
  clear F0
  generalize hln : l.length = n at *
  have HN := Lib.hid hln
  clear hln
  go_enter Tryd.func16, Tryd.ntmps16
  go_wp2_with fail
  refine HA.out.mono ?_
  rintro e w1 ⟨rfl, g1⟩
  have G1 := Lib.hid (G0.out.trans g1)
  have B1 := Lib.hid g1
  clear g1
  go_wp2_with fail
  go_loopw [3, 4] (fun s i wL => ∃ k : Nat, k ≤ n ∧ i = .int .i64 k ∧ s = .string (rkX k) ∧ Hid (Gr w wL) ∧ Hid (Gr (w.alloc (.cells #[.string t.nm, .slice p t.args.length c, .slice p' n c'] 27)) wL)) (fun _ i _ => n - (intOf i).toNat)
  case atStart => exact ⟨0, by omega, rfl, rfl, G1, B1⟩
  case round =>
    obtain ⟨k, hk, rfl, rfl, hG, hB2⟩ := hrel
    obtain ⟨y1, y2, y3⟩ := three (HX.out _ hB2.out)
    have hszk := SZ.out k
    by_cases hlt : k < n
    · obtain ⟨x, b, o, q, d, ht, rfl, hb, c1, c2, c3, hs, hts⟩ := (RowL.gr HR.out hG.out HB.out) k (by rw [HN.out]; exact hlt)
      have IT := Lib.hid (TX.out k x ht wr _ (Nat.le_trans HB.out hG.out.size) hs)
      have hzt := TZ.out k x ht
      clear hs hts
      by_cases hk0 : k = 0
      · subst hk0
        simp only [Nat.zero_mul, Nat.add_zero] at c1 c2 c3
        have NW := Lib.hid (F1.out x ht)
        clear ht
        generalize bs (litX x) = T at *
        generalize rkX 0 = P at *
        generalize x.2.nm = tn at *
        generalize x.2.args.length = ta at *
        generalize x.1 = xn at *
        have hzs : (P ++ ⟨#[32, 105, 102, 32]⟩ : ByteArray).size ≤ 140737588355336 := by rw [ByteArray.size_append]; have : (⟨#[32, 105, 102, 32]⟩ : ByteArray).size = 4 := rfl; omega
        have p1 := fun w' => run_string_add_sum (P := Tryd.prog) w' P ⟨#[32, 105, 102, 32]⟩ (by show _ + 4 ≤ _; omega)
        have p2 := fun w' => run_string_add_sum (P := Tryd.prog) w' (P ++ ⟨#[32, 105, 102, 32]⟩) T (by omega)
        go_wp2_with fail
        refine IT.out.mono ?_
        rintro e w2 ⟨rfl, g2⟩
        have G2 := Lib.hid (hG.out.trans g2)
        have B2 := Lib.hid (hB2.out.trans g2)
        clear g2
        go_wp2_with fail
        go_roundw
        case rel => exact ⟨0 + 1, by omega, by go_num, by rw [NW.out], G2, B2⟩
        case measure => simp [intOf]; omega
      · have NW := Lib.hid (F2.out k x (by omega) ht)
        have hk1 : ((k : Int) == 0) = false := by simp [hk0]
        have hk2 : ¬ ((k : Int) = 0) := by omega
        clear ht
        generalize bs (litX x) = T at *
        generalize rkX k = P at *
        generalize x.2.nm = tn at *
        generalize x.2.args.length = ta at *
        generalize x.1 = xn at *
        have hzs : (P ++ ⟨#[32, 97, 110, 100, 32]⟩ : ByteArray).size ≤ 140737588355337 := by rw [ByteArray.size_append]; have : (⟨#[32, 97, 110, 100, 32]⟩ : ByteArray).size = 5 := rfl; omega
        have p1 := fun w' => run_string_add_sum (P := Tryd.prog) w' P ⟨#[32, 97, 110, 100, 32]⟩ (by show _ + 5 ≤ _; omega)
        have p2 := fun w' => run_string_add_sum (P := Tryd.prog) w' (P ++ ⟨#[32, 97, 110, 100, 32]⟩) T (by omega)
        go_wp2_with fail
        refine IT.out.mono ?_
        rintro e w2 ⟨rfl, g2⟩
        have G2 := Lib.hid (hG.out.trans g2)
        have B2 := Lib.hid (hB2.out.trans g2)
        clear g2
        go_wp2_with fail
        go_roundw
        case rel => exact ⟨k + 1, by omega, by go_num, by rw [NW.out], G2, B2⟩
        case measure => simp [intOf]; omega
    · obtain rfl : k = n := by omega
      have RE2 := RE.out
      generalize rkX k = P at *
      have p1 := fun w' => run_string_add_sum (P := Tryd.prog) w' P ⟨#[46]⟩ (by show _ + 1 ≤ _; omega)
      rw [RE2] at p1
      go_wp2_with fail
      go_ret
      exact ⟨rfl, hG.out⟩
end PriF
end Go.Proofs.YtfdpelokiljigaaDoor
/- The reference's Rules. No conditions on sizes. -/
namespace Go.Proofs.YtfdpelokiljigaaDoor
open Go Go.RowKit
namespace PriL
open LexM TermM TermI Kit TermN TermU ParM ParK ParP ParQ PriM PriA PriB PriC PriD PriE PriF PriK
/-- The description's text up to the first k rules. -/
def dk (l : List Rl) (k : Nat) : ByteArray := bs (descX (l.take k))
theorem dk_next {l : List Rl} {k : Nat} {r : Rl} (h : l[k]? = some r) : dk l (k + 1) = dk l k ++ bs (ruleX r) ++ ⟨#[10]⟩ := by
  have hx : (l.map lineX)[k]? = some (lineX r) := by rw [List.getElem?_map, h]; rfl
  have e : ∀ j, descX (l.take j) = Lib.join ((l.map lineX).take j) [] := fun j => by unfold descX; rw [List.map_take]
  unfold dk
  rw [show (⟨#[10]⟩ : ByteArray) = bs [10] from rfl, bs_app, bs_app, e, e]
  by_cases hk : k = 0
  · subst hk
    rw [join_first [] hx]
    simp [Lib.join_nil, lineX]
  · rw [join_next [] (by omega) hx]
    simp [lineX]
theorem val_take {l : List Rl} {k : Nat} (h : ∀ j x, j < k → l[j]? = some x → vlB x = true) : ∀ r ∈ l.take k, vlB r = true := by
  intro r hr
  obtain ⟨j, hj, e⟩ := List.getElem_of_mem hr
  have hj2 : j < k := by rw [List.length_take] at hj; omega
  refine h j r hj2 ?_
  have := List.getElem?_eq_getElem hj
  rw [e, List.getElem?_take, if_pos hj2] at this
  exact this
theorem dk_size {l : List Rl} {k : Nat} (hn : l.length ≤ 128) (h : ∀ j x, j < k → l[j]? = some x → vlB x = true) : (dk l k).size ≤ 2560000 := by
  unfold dk
  rw [bs_size]
  exact desc_le (by rw [List.length_take]; omega) (val_take h)
theorem rule_le {r : Rl} (h : vlB r = true) : (bs (ruleX r)).size ≤ 20000 := by
  have := line_le h
  unfold lineX at this
  rw [List.length_append] at this
  rw [bs_size]
  omega
set_option maxRecDepth 100000 in
set_option maxHeartbeats 6400000 in
theorem rrules_any (l : List Rl) (B : Nat) (w : World) (sv : Value) (hB : B ≤ w.heap.size) (h : RIn (· < B) w l sv) :
    Calls Tryd.prog 23 #[sv] w fun e w' => e = .returned (.tuple #[.string (bs (rulesF l).1), .int .i64 (rulesF l).2]) ∧ Gr w w' := by
  obtain ⟨p, c, rfl, hc, hm, hR⟩ := RIn.row h
  by_cases h1 : 128 < l.length
  · have E : rulesF l = ([], 2) := by unfold rulesF; rw [if_pos h1]
    rw [E]
    dsimp only
    rw [bs_nil]
    have h1' : (128 : Int) < l.length := by omega
    clear h E hR
    generalize l.length = n at *
    go_enter Tryd.func23, Tryd.ntmps23
    go_wp2_with fail
    go_ret2
    exact ⟨rfl, Gr.refl _⟩
  · have h1' : ¬ (128 : Int) < l.length := by omega
    have HR := Lib.hid hR
    have HB := Lib.hid hB
    have RV := Lib.hid (fun (r : Rl) (w' : World) (sa sl : Value) (hb : B ≤ w'.heap.size) (hs : r.1.nm.size ≤ maxLen) (ha : SlIn (· < B) w' r.1.args sa) (hl : LIn (· < B) w' r.2 sl) => rvalid_any r B w' sa sl hb hs ha hl)
    have RR := Lib.hid (fun (r : Rl) (hv : vlB r = true) (w' : World) (sa sl : Value) (hb : B ≤ w'.heap.size) (ha : SlIn (· < B) w' r.1.args sa) (hl : LIn (· < B) w' r.2 sl) => rrule_any r B w' sa sl hb ha hl (vl_sm hv))
    have DN := Lib.hid (fun k r (h : l[k]? = some r) => dk_next h)
    have SZ := Lib.hid (fun k h => dk_size (l := l) (k := k) (by omega) h)
    have BAD : Hid (∀ k x, l[k]? = some x → vlB x = false → rulesF l = ([], 13)) := Lib.hid (fun k x hx hv => by
      have : l.all vlB = false := by rw [List.all_eq_false]; exact ⟨x, List.mem_of_getElem? hx, by simp [hv]⟩
      unfold rulesF
      rw [if_neg h1, if_pos this])
    have ALL : Hid ((∀ j x, j < l.length → l[j]? = some x → vlB x = true) → l.all vlB = true) := Lib.hid (fun h => by
      rw [List.all_eq_true]
      intro x hx
      obtain ⟨k, hk, e⟩ := List.getElem_of_mem hx
      exact h k x hk (by rw [List.getElem?_eq_getElem hk, e]))
    have LNG : Hid (l.all vlB = true → 16384 < (dk l l.length).size → rulesF l = ([], 2)) := Lib.hid (fun h2 h3 => by
      unfold dk at h3
      rw [List.take_length, bs_size] at h3
      unfold rulesF
      rw [if_neg h1, if_neg (by simp [h2]), if_pos h3])
    have FIN : Hid (l.all vlB = true → ¬ 16384 < (dk l l.length).size → bs (rulesF l).1 = dk l l.length ∧ (rulesF l).2 = 0) := Lib.hid (fun h2 h3 => by
      unfold dk at h3 ⊢
      rw [List.take_length, bs_size] at h3
      unfold rulesF
      rw [if_neg h1, if_neg (by simp [h2]), if_neg h3, List.take_length]
      exact ⟨rfl, rfl⟩)
    have F0 : dk l 0 = ⟨#[]⟩ := rfl
    clear h hR hB
    generalize rulesF l = O at *
    generalize dk l = D at *
    generalize hln : l.length = n at *
    have HN := Lib.hid hln
    clear hln
    go_enter Tryd.func23, Tryd.ntmps23
    go_wp2_with fail
    go_loopw [4, 5] (fun s i wL => ∃ k : Nat, k ≤ n ∧ i = .int .i64 k ∧ s = .string (D k) ∧ Hid (Gr w wL) ∧ Hid (∀ j x, j < k → l[j]? = some x → vlB x = true)) (fun _ i _ => n - (intOf i).toNat)
    case atStart => exact ⟨0, by omega, rfl, by rw [F0], Lib.hid (Gr.refl _), Lib.hid (fun j x h _ => absurd h (Nat.not_lt_zero j))⟩
    case round =>
      obtain ⟨k, hk, rfl, rfl, hG, hA⟩ := hrel
      have hsz := SZ.out k hA.out
      by_cases hlt : k < n
      · obtain ⟨t, b, o, q, d, u, f, ht, rfl, hb, c1, c2, c3, hs, hu, hts⟩ := (RowR.gr HR.out hG.out HB.out) k (by rw [HN.out]; exact hlt)
        have BD := Lib.hid (BAD.out k t ht)
        have NW := Lib.hid (DN.out k t ht)
        have NX : Hid (vlB t = true → ∀ j x, j < k + 1 → l[j]? = some x → vlB x = true) := Lib.hid (fun h j x hj hx => by
          by_cases e : j = k
          · subst e
            rw [ht] at hx
            cases hx
            exact h
          · exact hA.out j x (by omega) hx)
        have K1 := Lib.hid (RV.out t wr _ _ (Nat.le_trans HB.out hG.out.size) hts hs hu)
        have K2 := Lib.hid (fun hv (w' : World) (g : Gr wr w') => RR.out t hv w' _ _ (Nat.le_trans HB.out (Nat.le_trans hG.out.size g.size)) (hs.gr g (Nat.le_trans HB.out hG.out.size)) (hu.gr g (Nat.le_trans HB.out hG.out.size)))
        have hrl := fun hv => rule_le (r := t) hv
        clear ht hs hu hts
        by_cases hv : vlB t = true
        · have hrl := hrl hv
          have K2 := Lib.hid (K2.out hv)
          have NX := Lib.hid (NX.out hv)
          rw [hv] at K1
          clear BD hv
          have C1 : ∀ w' : World, w'.cell? ⟨b, o + k * 3, none⟩ = wr.cell? ⟨b, o + k * 3, none⟩ → w'.cell? ⟨b, o + k * 3, none⟩ = some (.string t.1.nm) := fun w' h => h.trans c1
          have C2 : ∀ w' : World, w'.cell? ⟨b, o + k * 3 + 1, none⟩ = wr.cell? ⟨b, o + k * 3 + 1, none⟩ → w'.cell? ⟨b, o + k * 3 + 1, none⟩ = some (.slice q t.1.args.length d) := fun w' h => h.trans c2
          have C3 : ∀ w' : World, w'.cell? ⟨b, o + k * 3 + 1 + 1, none⟩ = wr.cell? ⟨b, o + k * 3 + 1 + 1, none⟩ → w'.cell? ⟨b, o + k * 3 + 1 + 1, none⟩ = some (.slice u t.2.length f) := fun w' h => h.trans c3
          have hbl : b < wr.heap.size := Nat.lt_of_lt_of_le hb (Nat.le_trans HB.out hG.out.size)
          have CC := Lib.hid (And.intro C1 (And.intro C2 C3))
          clear C1 C2 C3
          generalize bs (ruleX t) = T at *
          generalize D k = P at *
          generalize t.1.nm = tn at *
          generalize t.1.args.length = ta at *
          generalize t.2.length = tb at *
          have hzs : (P ++ T : ByteArray).size ≤ 2580000 := by rw [ByteArray.size_append]; omega
          have p1 := fun w' => run_string_add_sum (P := Tryd.prog) w' P T (by omega)
          have p2 := fun w' => run_string_add_sum (P := Tryd.prog) w' (P ++ T) ⟨#[10]⟩ (by show _ + 1 ≤ _; omega)
          go_wp2_with fail
          refine K1.out.mono ?_
          rintro e w2 ⟨rfl, g2⟩
          have G2 := Lib.hid (hG.out.trans g2)
          have K3 := Lib.hid (K2.out w2 g2)
          have d1 := CC.out.1 w2 (g2.cell hbl)
          have d2 := CC.out.2.1 w2 (g2.cell hbl)
          have d3 := CC.out.2.2 w2 (g2.cell hbl)
          clear g2 K1 K2 c1 c2 c3
          go_wp2_with fail
          refine K3.out.mono ?_
          rintro e w3 ⟨rfl, g3⟩
          have G3 := Lib.hid (G2.out.trans g3)
          clear g3
          go_wp2_with fail
          go_roundw
          case rel => exact ⟨k + 1, by omega, by go_num, by rw [NW.out], G3, NX⟩
          case measure => simp [intOf]; omega
        · have hv : vlB t = false := by simpa using hv
          have EO := BD.out hv
          subst EO
          rw [hv] at K1
          clear K2 NX NW hrl hv
          generalize D k = P at *
          generalize t.1.nm = tn at *
          generalize t.1.args.length = ta at *
          generalize t.2.length = tb at *
          go_wp2_with fail
          refine K1.out.mono ?_
          rintro e w2 ⟨rfl, g2⟩
          have G2 := Lib.hid (hG.out.trans g2)
          clear g2
          go_wp2_with fail
          go_ret2
          exact ⟨rfl, G2.out⟩
      · obtain rfl : k = n := by omega
        have AL := ALL.out (fun j x hj hx => hA.out j x hj hx)
        by_cases h3 : 16384 < (D k).size
        · have EO := LNG.out AL h3
          subst EO
          have h3' : (16384 : Int) < (D k).size := by omega
          clear AL
          generalize D k = P at *
          go_wp2_with fail
          go_ret2
          exact ⟨rfl, hG.out⟩
        · obtain ⟨e1, e2⟩ := FIN.out AL h3
          have h3' : ¬ (16384 : Int) < (D k).size := by omega
          clear AL
          generalize hP : D k = P at *
          go_wp2_with fail
          go_ret2
          exact ⟨rfl, hG.out⟩
end PriL
end Go.Proofs.YtfdpelokiljigaaDoor
/- Plain facts of layer 4 (for a seat without layer 4's laws): which tokens a text has, and the tokens of two texts on separate lines. No conditions. -/
namespace Go.Proofs.YtfdpelokiljigaaDoor
open Go Go.RowKit
namespace LexQ
open LexM LexE LexF LexG LexP
def stops (p : Int → Bool) : List UInt8 → Bool
  | [] => true
  | b :: _ => !p b.toNat
theorem tw_stop (p : Int → Bool) (x rest : List UInt8) (hs : stops p rest = true) : (x ++ rest).takeWhile (fun b => p b.toNat) = x.takeWhile (fun b => p b.toNat) := by
  induction x with
  | nil =>
    cases rest with
    | nil => rfl
    | cons b r =>
      have : p b.toNat = false := by simpa [stops] using hs
      simp [this]
  | cons a x ih =>
    rw [List.cons_append, List.takeWhile_cons, List.takeWhile_cons]
    split
    · rw [ih]
    · rfl
theorem span_stop (p : Int → Bool) (x rest : List UInt8) (hs : stops p rest = true) : spanL p (x ++ rest) = spanL p x := by
  unfold spanL; rw [tw_stop p x rest hs]
theorem take_span (p : Int → Bool) (l : List UInt8) : l.take (spanL p l) = l.takeWhile (fun b => p b.toNat) := by
  unfold spanL
  exact (List.prefix_iff_eq_take.1 (List.takeWhile_prefix _)).symm
theorem tw_self (p : Int → Bool) (l : List UInt8) : (l.takeWhile (fun b => p b.toNat)).takeWhile (fun b => p b.toNat) = l.takeWhile (fun b => p b.toNat) := by
  induction l with
  | nil => rfl
  | cons b l ih =>
    rw [List.takeWhile_cons]
    split
    · rename_i h
      rw [List.takeWhile_cons, if_pos h, ih]
    · rfl
theorem span_self (p : Int → Bool) (l : List UInt8) : spanL p (l.take (spanL p l)) = spanL p l := by
  rw [take_span]
  unfold spanL
  rw [tw_self]
/-- A kind and a text that are read back before whatever ends a run. -/
def Good (k : Int) (x : List UInt8) : Prop := k ≠ 0 ∧ x ≠ [] ∧ ∀ rest, stops ruB rest = true → pieceF (x ++ rest) = (k, x.length, 0)
theorem piece_cons (b : UInt8) (l : List UInt8) : pieceF (b :: l) = if blB b.toNat = true then (0, 1, 0) else if ((b.toNat : Int) == 35) = true then (0, spanL ncB (b :: l), 0) else if syB b.toNat = true then (4, 1, 0)
    else if ruB b.toNat = true then (kindL ((b :: l).take (spanL ruB (b :: l))), spanL ruB (b :: l), kErr (kindL ((b :: l).take (spanL ruB (b :: l))))) else (0, 0, 1) := rfl
theorem piece_good (l : List UInt8) (hne : l ≠ []) (h0 : (pieceF l).2.2 = 0) (hk : (pieceF l).1 ≠ 0) : Good (pieceF l).1 (l.take (pieceF l).2.1) := by
  cases l with
  | nil => exact absurd rfl hne
  | cons b t =>
    rw [piece_cons] at h0 hk ⊢
    by_cases c1 : blB b.toNat = true
    · rw [if_pos c1] at hk; exact absurd rfl hk
    rw [if_neg c1] at h0 hk ⊢
    by_cases c2 : ((b.toNat : Int) == 35) = true
    · rw [if_pos c2] at hk; exact absurd rfl hk
    rw [if_neg c2] at h0 hk ⊢
    by_cases c3 : syB b.toNat = true
    · rw [if_pos c3]
      refine ⟨by decide, by simp, fun rest _ => ?_⟩
      show pieceF (b :: rest) = (4, 1, 0)
      rw [piece_cons, if_neg c1, if_neg c2, if_pos c3]
    rw [if_neg c3] at h0 hk ⊢
    by_cases c4 : ruB b.toNat = true
    · rw [if_pos c4] at h0 hk ⊢
      dsimp only at h0 hk ⊢
      have hpos := span_pos ruB b t c4
      have hle := spanL_le ruB (b :: t)
      have hself := span_self ruB (b :: t)
      generalize hn : spanL ruB (b :: t) = n at *
      have hx : (b :: t).take n = b :: t.take (n - 1) := by
        obtain ⟨m, rfl⟩ : ∃ m, n = m + 1 := ⟨n - 1, by omega⟩
        simp
      have hlen : ((b :: t).take n).length = n := by rw [List.length_take]; omega
      refine ⟨hk, by rw [hx]; simp, fun rest hs => ?_⟩
      have hsp : spanL ruB ((b :: t).take n ++ rest) = n := by rw [span_stop ruB _ rest hs, hself]
      have htk : ((b :: t).take n ++ rest).take n = (b :: t).take n := by
        rw [List.take_append_of_le_length (by omega), List.take_of_length_le (by omega)]
      rw [hlen]
      rw [hx] at hsp htk ⊢
      rw [List.cons_append] at hsp htk ⊢
      rw [piece_cons, if_neg c1, if_neg c2, if_neg c3, if_pos c4, hsp, htk]
      unfold kErr at h0 ⊢
      rw [hx] at h0
      rw [h0]
    · rw [if_neg c4] at hk; exact absurd rfl hk
theorem cat_ok {t : List Tok} {r : Res} (h : (cat t r).2.2 = 0) : r.2.2 = 0 ∧ cat t r = (t ++ r.1, 0, 0) := by
  unfold cat at h ⊢
  by_cases c : r.2.2 = 0
  · exact ⟨c, by rw [if_pos c]⟩
  · rw [if_neg c] at h; exact absurd h c
def wt (xs : List Tok) : Nat := (xs.map (fun t => t.2.1.length + 1)).sum
theorem lexF_good : ∀ (f k : Nat) (l : List UInt8), (lexF f k l).2.2 = 0 → ∃ xs : List Tok, lexF f k l = (xs ++ [(0, [], k + l.length)], 0, 0) ∧ (∀ t ∈ xs, Good t.1 t.2.1) ∧ wt xs ≤ 2 * l.length
  | 0, k, [] => fun _ => ⟨[], rfl, by simp, by simp [wt]⟩
  | _ + 1, k, [] => fun _ => ⟨[], rfl, by simp, by simp [wt]⟩
  | 0, k, b :: l => fun h => absurd h (by simp [lexF])
  | f + 1, k, b :: l => fun h => by
    have hst := lex_step f k (b :: l) (by simp) []
    rw [lex_norm] at hst
    rw [hst] at h ⊢
    by_cases c : (pieceF (b :: l)).2.2 = 0
    · rw [if_pos c] at h ⊢
      obtain ⟨h1, h2⟩ := cat_ok h
      obtain ⟨xs, e1, e2, e3⟩ := lexF_good f _ _ h1
      have hp := piece_len (b :: l) (by simp) c
      rw [h2, e1]
      have hl : ((b :: l).drop (pieceF (b :: l)).2.1).length = (b :: l).length - (pieceF (b :: l)).2.1 := List.length_drop
      refine ⟨LexG.tok (pieceF (b :: l)) (b :: l) k ++ xs, ?_, ?_, ?_⟩
      · rw [hl, show k + (pieceF (b :: l)).2.1 + ((b :: l).length - (pieceF (b :: l)).2.1) = k + (b :: l).length from by omega]
        simp
      · intro t ht
        rcases List.mem_append.1 ht with ht | ht
        · unfold LexG.tok at ht
          split at ht
          · simp at ht
          · rename_i hk
            simp at ht
            subst ht
            exact piece_good (b :: l) (by simp) c hk
        · exact e2 t ht
      · rw [hl] at e3
        have ht : wt (LexG.tok (pieceF (b :: l)) (b :: l) k) ≤ 2 * (pieceF (b :: l)).2.1 := by
          unfold LexG.tok
          split
          · simp [wt]
          · simp [wt]; omega
        have ha : wt (LexG.tok (pieceF (b :: l)) (b :: l) k ++ xs) = wt (LexG.tok (pieceF (b :: l)) (b :: l) k) + wt xs := by simp [wt]
        omega
    · rw [if_neg c] at h
      exact absurd h c
def kt (t : Tok) : Int × List UInt8 := (t.1, t.2.1)
theorem step_ok (f k : Nat) (l : List UInt8) (hne : l ≠ []) (p : Int × Nat × Int) (hp : pieceF l = p) (h0 : p.2.2 = 0) (ts : List Tok) (h : lexF f (k + p.2.1) (l.drop p.2.1) = (ts, 0, 0)) : lexF (f + 1) k l = (LexG.tok p l k ++ ts, 0, 0) := by
  have hst := lex_step f k l hne []
  rw [lex_norm, hp, if_pos h0, h] at hst
  rw [hst]
  simp [cat]
/-- Moved by d bytes. -/
def moved (d : Nat) (t : Tok) : Tok := (t.1, t.2.1, t.2.2 + d)
theorem lexF_move (d : Nat) : ∀ (f k : Nat) (l : List UInt8), (lexF f k l).2.2 = 0 → lexF f (k + d) l = ((lexF f k l).1.map (moved d), 0, 0)
  | 0, k, [] => fun _ => rfl
  | _ + 1, k, [] => fun _ => rfl
  | 0, k, b :: l => fun h => absurd h (by simp [lexF])
  | f + 1, k, b :: l => fun h => by
    have h1 := lex_step f k (b :: l) (by simp) []
    have h2 := lex_step f (k + d) (b :: l) (by simp) []
    rw [lex_norm] at h1 h2
    rw [h1] at h ⊢
    rw [h2]
    by_cases h0 : (pieceF (b :: l)).2.2 = 0
    · rw [if_pos h0] at h ⊢
      rw [if_pos h0]
      obtain ⟨g1, g2⟩ := cat_ok h
      have ih := lexF_move d f _ _ g1
      rw [g2, show k + d + (pieceF (b :: l)).2.1 = k + (pieceF (b :: l)).2.1 + d from by omega, ih]
      have ht : LexG.tok (pieceF (b :: l)) (b :: l) (k + d) = (LexG.tok (pieceF (b :: l)) (b :: l) k).map (moved d) := by
        unfold LexG.tok
        split <;> simp [moved]
      rw [ht]
      simp [cat]
    · rw [if_neg h0] at h
      exact absurd h h0
theorem lexF_fuel : ∀ (f g k : Nat) (l : List UInt8), l.length ≤ f → l.length ≤ g → lexF f k l = lexF g k l
  | f, g, k, [] => fun _ _ => by cases f <;> cases g <;> rfl
  | 0, _, _, _ :: _ => fun h _ => absurd h (by simp)
  | _ + 1, 0, _, _ :: _ => fun _ h => absurd h (by simp)
  | f + 1, g + 1, k, b :: l => fun hf hg => by
    have h1 := lex_step f k (b :: l) (by simp) []
    have h2 := lex_step g k (b :: l) (by simp) []
    rw [lex_norm] at h1 h2
    rw [h1, h2]
    by_cases h0 : (pieceF (b :: l)).2.2 = 0
    · have hp := piece_len (b :: l) (by simp) h0
      rw [if_pos h0, if_pos h0, lexF_fuel f g _ _ (by rw [List.length_drop]; omega) (by rw [List.length_drop]; omega)]
    · rw [if_neg h0, if_neg h0]
theorem piece_app (l rest : List UInt8) (hne : l ≠ []) : pieceF (l ++ 10 :: rest) = pieceF l := by
  cases l with
  | nil => exact absurd rfl hne
  | cons b l =>
    have s1 : spanL ncB (b :: l ++ 10 :: rest) = spanL ncB (b :: l) := span_stop ncB _ _ rfl
    have s2 : spanL ruB (b :: l ++ 10 :: rest) = spanL ruB (b :: l) := span_stop ruB _ _ rfl
    rw [List.cons_append] at s1 s2 ⊢
    rw [piece_cons, piece_cons, s1, s2]
    have ht : (b :: (l ++ 10 :: rest)).take (spanL ruB (b :: l)) = (b :: l).take (spanL ruB (b :: l)) := by
      rw [← List.cons_append, List.take_append_of_le_length (spanL_le _ _)]
    rw [ht]
theorem lexF_app (rest : List UInt8) : ∀ (f k : Nat) (l : List UInt8) (xs : List Tok), lexF f k l = (xs ++ [(0, [], k + l.length)], 0, 0) → ∀ F, l.length + rest.length + 1 ≤ F → lexF F k (l ++ 10 :: rest) = cat xs (lexF rest.length (k + l.length + 1) rest)
  | f, k, [], xs => fun h F hF => by
    have e : lexF f k [] = ([(0, [], k)], 0, 0) := by cases f <;> rfl
    rw [e] at h
    have hx : xs = [] := by
      have := congrArg (fun r : Res => r.1.length) h
      simp at this
      exact this
    subst hx
    obtain ⟨F', rfl⟩ : ∃ F', F = F' + 1 := ⟨F - 1, by omega⟩
    have h1 := lex_step F' k (10 :: rest) (by simp) []
    rw [lex_norm, show pieceF (10 :: rest) = (0, 1, 0) from by rw [piece_cons]; rfl, if_pos rfl] at h1
    rw [List.nil_append, h1, lexF_fuel F' rest.length _ _ (by simp at hF ⊢; omega) (by simp)]
    simp [LexG.tok]
  | 0, k, b :: l, xs => fun h => absurd (congrArg (fun r : Res => r.2.2) h) (by simp [lexF])
  | f + 1, k, b :: l, xs => fun h F hF => by
    have h1 := lex_step f k (b :: l) (by simp) []
    rw [lex_norm] at h1
    rw [h1] at h
    by_cases h0 : (pieceF (b :: l)).2.2 = 0
    · rw [if_pos h0] at h
      have hp := piece_len (b :: l) (by simp) h0
      obtain ⟨g1, g2⟩ := cat_ok (by rw [h])
      obtain ⟨ys, e1, _, _⟩ := lexF_good f _ _ g1
      rw [e1] at g2 h
      have hdl : ((b :: l).drop (pieceF (b :: l)).2.1).length = (b :: l).length - (pieceF (b :: l)).2.1 := List.length_drop
      have hkk : k + (pieceF (b :: l)).2.1 + ((b :: l).drop (pieceF (b :: l)).2.1).length = k + (b :: l).length := by omega
      rw [hkk] at e1 g2 h
      have hxs : xs = LexG.tok (pieceF (b :: l)) (b :: l) k ++ ys := by
        rw [g2] at h
        have := (Prod.mk.inj h).1
        rw [List.nil_append, ← List.append_assoc] at this
        exact (List.append_inj_left' this rfl).symm
      obtain ⟨F', rfl⟩ : ∃ F', F = F' + 1 := ⟨F - 1, by omega⟩
      have h2 := lex_step F' k (b :: l ++ 10 :: rest) (by simp) []
      rw [lex_norm, piece_app (b :: l) rest (by simp), if_pos h0] at h2
      have hd : (b :: l ++ 10 :: rest).drop (pieceF (b :: l)).2.1 = (b :: l).drop (pieceF (b :: l)).2.1 ++ 10 :: rest := List.drop_append_of_le_length hp.2
      have htk : LexG.tok (pieceF (b :: l)) (b :: l ++ 10 :: rest) k = LexG.tok (pieceF (b :: l)) (b :: l) k := by
        unfold LexG.tok
        rw [List.take_append_of_le_length hp.2]
      rw [h2, hd, htk]
      have ih := lexF_app rest f _ _ ys (by rw [hkk]; exact e1) F' (by rw [hdl]; simp at hF ⊢; omega)
      rw [ih, hkk, cat_cat, hxs]
      rfl
    · rw [if_neg h0] at h
      exact absurd (congrArg (fun r : Res => r.2.2) h) h0
/-- THE TOKENS OF TWO TEXTS ON SEPARATE LINES. -/
theorem lines (a b : List UInt8) (ha : a.length ≤ 1000) (hb : b.length ≤ 1000) (ta tb : List Tok) (h1 : lexR a = (ta, 0, 0)) (h2 : lexR b = (tb, 0, 0)) :
    ∃ xs n, ta = xs ++ [(0, [], n)] ∧ lexR (a ++ 10 :: b) = (xs ++ tb.map (moved (a.length + 1)), 0, 0) := by
  unfold lexR at h1 h2 ⊢
  rw [if_neg (by omega)] at h1 h2
  rw [if_neg (by simp; omega)]
  obtain ⟨xs, e1, _, _⟩ := lexF_good a.length 0 a (by rw [h1])
  rw [h1] at e1
  refine ⟨xs, _, (Prod.mk.inj e1).1, ?_⟩
  have h := lexF_app b a.length 0 a xs (by rw [h1]; exact e1) (a ++ 10 :: b).length (by simp; omega)
  have hm := lexF_move (a.length + 1) b.length 0 b (by rw [h2])
  rw [h2] at hm
  rw [h, show 0 + a.length + 1 = 0 + (a.length + 1) from by omega, hm]
  simp [cat]
end LexQ
end Go.Proofs.YtfdpelokiljigaaDoor
