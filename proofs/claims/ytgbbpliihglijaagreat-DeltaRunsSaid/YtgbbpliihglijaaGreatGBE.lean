/- Texts laid together: NetP; NetD; NetE; NetF. Their own heads stand before each. -/
import Derived.Test.YtgbbpliihglijaaGreatGBB
import Derived.Test.YtgbbpliihglijaaGreatGAD
/- What the package checks of a network's lists is what a valid network is, as plain data. No conditions. -/
namespace Go.Proofs.YtgbbpliihglijaaGreat
open Go
namespace NetP
open LexM TermM NetM NetN NetA NetB NetC
def cmpP (a b : Ip) : Int := orL [cmpI a.1 b.1, cmpT a.2 b.2]
def cmpO (a b : Ou) : Int := orL [cmpI a.1 b.1, cmpI a.2.1 b.2.1, cmpT a.2.2.1 b.2.2.1]
abbrev tm0 : Tm := .mk ⟨#[]⟩ []
abbrev ip0 : Ip := (0, tm0)
abbrev ou0 : Ou := (0, 0, tm0, 0)
def factsC (g : Tm → Bool) (n : Nt) : Bool := allN n.bases.length (fun j => g (tmAt n.bases j)) && (ordB cmpT n.bases tm0 && (numsB n.initial n.bases.length && decide (n.next.length = n.bases.length)))
def movesC (g : Tm → Bool) (n : Nt) : Bool := allN n.inputs.length (fun j => inB (ipAt n.inputs j).1 n.roles.length && g (ipAt n.inputs j).2) && (ordB cmpP n.inputs ip0 && decide (n.legal.length = n.inputs.length))
def goalC (r : Int) (x : Ou) : Bool := inB x.1 r && (inB x.2.1 101 && noTerm x.2.2.1)
def seeC (g : Tm → Bool) (r : Int) (x : Ou) : Bool := inB x.1 r && (decide (x.2.1 = 0) && g x.2.2.1)
def outsC (g : Tm → Bool) (n : Nt) : Bool := allN n.goals.length (fun j => goalC n.roles.length (ouAt n.goals j)) && (allN n.sees.length (fun j => seeC g n.roles.length (ouAt n.sees j)) && (ordB cmpO n.goals ou0 && (ordB cmpO n.sees ou0 && (outs n).all fun x => inB x n.gates.length)))
theorem or2_lt {a b : Int} : orL [a, b] < 0 ↔ a < 0 ∨ (a = 0 ∧ b < 0) := by
  simp only [orL]
  split
  · split <;> omega
  · omega
theorem or3_lt {a b c : Int} : orL [a, b, c] < 0 ↔ a < 0 ∨ (a = 0 ∧ (b < 0 ∨ (b = 0 ∧ c < 0))) := by
  simp only [orL]
  split
  · split
    · split <;> omega
    · omega
  · omega
theorem cmpi_zero {a b : Int} : cmpI a b = 0 ↔ a = b := by unfold cmpI; split <;> (try split) <;> omega
theorem cmpp_lt (a b : Ip) : decide (cmpP a b < 0) = ipLt a b := by
  unfold ipLt cmpP
  rw [Bool.eq_iff_iff, decide_eq_true_eq, or2_lt, cmpi_neg, cmpi_zero]
  simp
theorem split_all {n : Nat} {f g : Nat → Bool} : (allN n f && allN n g) = allN n fun j => f j && g j := by
  rw [Bool.eq_iff_iff]
  simp only [Bool.and_eq_true, alln_true]
  exact ⟨fun h j hj => ⟨h.1 j hj, h.2 j hj⟩, fun h => ⟨fun j hj => (h j hj).1, fun j hj => (h j hj).2⟩⟩
theorem lists_eq (g : Tm → Bool) (n : Nt) : (factsC g n && movesC g n) = listsB g n := by
  have h1 : (allN n.bases.length (fun j => g (tmAt n.bases j)) && ordB cmpT n.bases tm0) = allN n.bases.length (baseAt g n.bases) := by
    unfold ordB
    rw [split_all]
    rfl
  have h2 : (allN n.inputs.length (fun j => inB (ipAt n.inputs j).1 n.roles.length && g (ipAt n.inputs j).2) && ordB cmpP n.inputs ip0) = allN n.inputs.length (inputAt g n.roles.length n.inputs) := by
    unfold ordB
    rw [split_all]
    refine alln_congr fun j _ => ?_
    unfold inputAt
    rw [cmpp_lt, Bool.and_assoc]
    rfl
  unfold factsC movesC listsB
  rw [← h1, ← h2, Bool.eq_iff_iff]
  simp only [Bool.and_eq_true]
  constructor
  · rintro ⟨⟨a, b, c, d⟩, e, f, g⟩
    exact ⟨⟨a, b⟩, ⟨e, f⟩, c, d, g⟩
  · rintro ⟨⟨a, b⟩, ⟨e, f⟩, c, d, g⟩
    exact ⟨⟨a, b, c, d⟩, e, f, g⟩
theorem no_term {t : Tm} (h : noTerm t = true) : t = tm0 := by
  cases t with
  | mk s l =>
    unfold noTerm at h
    simp only [Tm.nm, Tm.args, Bool.and_eq_true, List.isEmpty_iff] at h
    rw [of_decide_eq_true h.1, h.2]
theorem goal_lt {r r' : Int} {a b : Ou} (ha : goalC r a = true) (hb : goalC r' b = true) : decide (cmpO a b < 0) = goLt a b := by
  unfold goalC at ha hb
  simp only [Bool.and_eq_true] at ha hb
  have e : cmpT a.2.2.1 b.2.2.1 = 0 := by
    rw [no_term ha.2.2, no_term hb.2.2]
    rfl
  unfold goLt cmpO
  rw [Bool.eq_iff_iff, decide_eq_true_eq, or3_lt, cmpi_neg, cmpi_zero, cmpi_neg, cmpi_zero, e]
  simp
theorem see_lt {g : Tm → Bool} {r r' : Int} {a b : Ou} (ha : seeC g r a = true) (hb : seeC g r' b = true) : decide (cmpO a b < 0) = seLt a b := by
  unfold seeC at ha hb
  simp only [Bool.and_eq_true, decide_eq_true_eq] at ha hb
  unfold seLt cmpO
  rw [Bool.eq_iff_iff, decide_eq_true_eq, or3_lt, cmpi_neg, cmpi_zero, cmpi_neg, cmpi_zero, ha.2.1, hb.2.1]
  simp
theorem outs_eq (g : Tm → Bool) (n : Nt) : outsC g n = outsB g n := by
  have h1 : (allN n.goals.length (fun j => goalC n.roles.length (ouAt n.goals j)) && ordB cmpO n.goals ou0) = allN n.goals.length (goalAt n.roles.length n.goals) := by
    unfold ordB
    rw [Bool.eq_iff_iff]
    simp only [Bool.and_eq_true, alln_true]
    constructor
    · rintro ⟨a, b⟩ j hj
      have aj := a j hj
      have bj := b j hj
      unfold goalAt
      unfold goalC at aj
      simp only [Bool.and_eq_true] at aj ⊢
      refine ⟨aj.1, aj.2.1, aj.2.2, ?_⟩
      by_cases h0 : j = 0
      · simp [h0]
      · have e := goal_lt (a (j - 1) (by omega)) (a j hj)
        simp only [h0, decide_false, Bool.false_or] at bj ⊢
        rw [← e]
        exact bj
    · intro h
      have a : ∀ j, j < n.goals.length → goalC n.roles.length (ouAt n.goals j) = true := fun j hj => by
        have := h j hj
        unfold goalAt at this
        unfold goalC
        simp only [Bool.and_eq_true] at this ⊢
        exact ⟨this.1, this.2.1, this.2.2.1⟩
      refine ⟨a, fun j hj => ?_⟩
      have := h j hj
      unfold goalAt at this
      simp only [Bool.and_eq_true] at this
      have t := this.2.2.2
      by_cases h0 : j = 0
      · simp [h0]
      · have e := goal_lt (a (j - 1) (by omega)) (a j hj)
        simp only [h0, decide_false, Bool.false_or] at t ⊢
        rw [← e] at t
        exact t
  have h2 : (allN n.sees.length (fun j => seeC g n.roles.length (ouAt n.sees j)) && ordB cmpO n.sees ou0) = allN n.sees.length (seeAt g n.roles.length n.sees) := by
    unfold ordB
    rw [Bool.eq_iff_iff]
    simp only [Bool.and_eq_true, alln_true]
    constructor
    · rintro ⟨a, b⟩ j hj
      have aj := a j hj
      have bj := b j hj
      unfold seeAt
      unfold seeC at aj
      simp only [Bool.and_eq_true] at aj ⊢
      refine ⟨aj.1, aj.2.1, aj.2.2, ?_⟩
      by_cases h0 : j = 0
      · simp [h0]
      · have e := see_lt (a (j - 1) (by omega)) (a j hj)
        simp only [h0, decide_false, Bool.false_or] at bj ⊢
        rw [← e]
        exact bj
    · intro h
      have a : ∀ j, j < n.sees.length → seeC g n.roles.length (ouAt n.sees j) = true := fun j hj => by
        have := h j hj
        unfold seeAt at this
        unfold seeC
        simp only [Bool.and_eq_true] at this ⊢
        exact ⟨this.1, this.2.1, this.2.2.1⟩
      refine ⟨a, fun j hj => ?_⟩
      have := h j hj
      unfold seeAt at this
      simp only [Bool.and_eq_true] at this
      have t := this.2.2.2
      by_cases h0 : j = 0
      · simp [h0]
      · have e := see_lt (a (j - 1) (by omega)) (a j hj)
        simp only [h0, decide_false, Bool.false_or] at t ⊢
        rw [← e] at t
        exact t
  unfold outsC outsB
  rw [← h1, ← h2, Bool.eq_iff_iff]
  simp only [Bool.and_eq_true]
  constructor
  · rintro ⟨a, b, c, d, e⟩
    exact ⟨⟨a, c⟩, ⟨b, d⟩, e⟩
  · rintro ⟨⟨a, c⟩, ⟨b, d⟩, e⟩
    exact ⟨a, b, c, d, e⟩
end NetP
end Go.Proofs.YtgbbpliihglijaaGreat
/- The comparisons of inputs and outputs. Conditions: the names have an int's length. Made by gnC.py. -/
namespace Go.Proofs.YtgbbpliihglijaaGreat
open Go Go.RowKit
namespace NetD
open Kit LexM TermM TermI NetM NetN NetK NetA NetB NetC
set_option maxRecDepth 100000 in
set_option maxHeartbeats 6400000 in
theorem cmpp_any (r r' : Int) (x y : Tm) (B : Nat) (w : World) (qx qy : Option Addr) (dx dy : Nat) (hB : B ≤ w.heap.size) (hx : SlIn (· < B) w x.args (.slice qx x.args.length dx)) (hy : SlIn (· < B) w y.args (.slice qy y.args.length dy)) (hn : x.nm.size ≤ maxLen) (hn' : y.nm.size ≤ maxLen) :
    Calls Tryz.prog 61 #[.agg #[.int .i64 r, .string x.nm, .slice qx x.args.length dx], .agg #[.int .i64 r', .string y.nm, .slice qy y.args.length dy]] w fun e w' => e = .returned (.int .i64 (orL [cmpI r r', cmpT x y])) ∧ Below w.heap.size w w' := by
  obtain ⟨W2, hW2⟩ : ∃ z, z = (w.alloc (.cells #[.int .i64 r, .string x.nm, .slice qx x.args.length dx] 60)).alloc (.cells #[.int .i64 r', .string y.nm, .slice qy y.args.length dy] 60) := ⟨_, rfl⟩
  have K2 : Hid (Below w.heap.size w W2) := Lib.hid (by rw [hW2]; exact next0 (below_alloc _ _) (below_alloc _ _))
  have HX : Hid (Has W2 w.heap.size #[.int .i64 r, .string x.nm, .slice qx x.args.length dx]) := Lib.hid (by rw [hW2]; exact (Has.new _ _ _).alloc _)
  have HY : Hid (Has W2 (w.heap.size + 1) #[.int .i64 r', .string y.nm, .slice qy y.args.length dy]) := Lib.hid (by rw [hW2]; exact Has.new1 _ _ _ _)
  have hz := K2.out.size
  have Hb : Hid (∀ w', Below W2.heap.size W2 w' → w'.cell? ⟨w.heap.size, 0, none⟩ = some (.int .i64 r) ∧ w'.cell? ⟨w.heap.size, 1, none⟩ = some (.string x.nm) ∧ w'.cell? ⟨w.heap.size, 1 + 1, none⟩ = some (.slice qx x.args.length dx) ∧ w'.cell? ⟨w.heap.size + 1, 0, none⟩ = some (.int .i64 r') ∧ w'.cell? ⟨w.heap.size + 1, 1, none⟩ = some (.string y.nm) ∧ w'.cell? ⟨w.heap.size + 1, 1 + 1, none⟩ = some (.slice qy y.args.length dy)) := Lib.hid (fun w' q => ⟨(HX.out.step0 q).cell 0, (HX.out.step0 q).cell 1, (HX.out.step0 q).cell 2, (HY.out.step0 q).cell 0, (HY.out.step0 q).cell 1, (HY.out.step0 q).cell 2⟩)
  have KT := Lib.hid (fun w' (q : Below W2.heap.size W2 w') => TermR.cmp_any x B w' _ y _ (by have := q.size; omega) hn hn' (hx.frame fun b o (hb : b < B) => (K2.out.trans (q.mono hz)).cell (p := ⟨b, o, none⟩) (Nat.lt_of_lt_of_le hb hB)) (hy.frame fun b o (hb : b < B) => (K2.out.trans (q.mono hz)).cell (p := ⟨b, o, none⟩) (Nat.lt_of_lt_of_le hb hB)))
  have KI := Lib.hid (fun w' => cmpi_any r r' w')
  have KO := Lib.hid (fun a b w' => or2 a b w')
  have KW := Lib.hid (fun w' (q : Below W2.heap.size W2 w') => show Below w.heap.size w w' from K2.out.trans (q.mono hz))
  clear hx hy hn hn' HX HY hz
  generalize cmpT x y = ct at *
  generalize cmpI r r' = ci at *
  generalize x.nm = xn at *
  generalize x.args.length = xa at *
  generalize y.nm = yn at *
  generalize y.args.length = ya at *
  go_enter Tryz.func61, Tryz.ntmps61
  go_upto_region 1 with fail
  rw [← hW2]
  clear hW2
  have hq0 : Hid (Below W2.heap.size W2 W2.drew) := Lib.hid (Below.refl _ _).drew
  obtain ⟨x1, x2, x3, x4, x5, x6⟩ := Hb.out _ hq0.out
  go_region_held3 (fun w' => w'.cell? ⟨w.heap.size, 0, none⟩ = some (.int .i64 r) ∧ w'.cell? ⟨w.heap.size, 1, none⟩ = some (.string xn) ∧ w'.cell? ⟨w.heap.size, 1 + 1, none⟩ = some (.slice qx xa dx) ∧ w'.cell? ⟨w.heap.size + 1, 0, none⟩ = some (.int .i64 r') ∧ w'.cell? ⟨w.heap.size + 1, 1, none⟩ = some (.string yn) ∧ w'.cell? ⟨w.heap.size + 1, 1 + 1, none⟩ = some (.slice qy ya dy))
    (first | (with_reducible assumption) | (with_reducible exact ⟨‹_›, ‹_›, ‹_›, ‹_›, ‹_›, ‹_›⟩) | (with_reducible refine Hb.out _ ?_; repeat (first | (with_reducible exact Hid.out (by assumption)) | (with_reducible exact Below.refl _ _) | (with_reducible refine Below.drew ?_) | (with_reducible refine b_more ?_ _))))
    (first | (go_at_call 59; (try go_split_ands); (with_reducible refine (KT.out _ (by repeat (first | (with_reducible exact Hid.out (by assumption)) | (with_reducible exact Below.refl _ _) | (with_reducible refine Below.drew ?_) | (with_reducible refine b_more ?_ _)))).mono ?_); rintro e w' ⟨rfl, q0⟩; (have qt : Below W2.heap.size W2 w' := by (refine next0 ?_ q0.1; repeat (first | (with_reducible exact Hid.out (by assumption)) | (with_reducible exact Below.refl _ _) | (with_reducible refine Below.drew ?_) | (with_reducible refine b_more ?_ _)))); clear q0; (have QT := Lib.hid qt); obtain ⟨t1, t2, t3, t4, t5, t6⟩ := Hb.out _ qt) | (go_at_call 77; (try go_split_ands); (with_reducible refine (KI.out _).mono ?_); rintro e w' ⟨rfl, rfl⟩) | (go_at_call 80; (try go_split_ands); (with_reducible refine (KO.out _ _ _).mono ?_); rintro e w' ⟨rfl, rfl⟩))
  all_goals
    go_wp2_with fail
    go_ret
    exact ⟨rfl, KW.out _ (b_more QT.out _)⟩
end NetD
end Go.Proofs.YtgbbpliihglijaaGreat
/- The comparison of outputs. Conditions: the names have an int's length. Made by gnC.py. -/
namespace Go.Proofs.YtgbbpliihglijaaGreat
open Go Go.RowKit
namespace NetE
open Kit LexM TermM TermI NetM NetN NetK NetA NetB NetC
set_option maxRecDepth 100000 in
set_option maxHeartbeats 6400000 in
theorem cmpo_any (r r' v v' g g' : Int) (x y : Tm) (B : Nat) (w : World) (qx qy : Option Addr) (dx dy : Nat) (hB : B ≤ w.heap.size) (hx : SlIn (· < B) w x.args (.slice qx x.args.length dx)) (hy : SlIn (· < B) w y.args (.slice qy y.args.length dy)) (hn : x.nm.size ≤ maxLen) (hn' : y.nm.size ≤ maxLen) :
    Calls Tryz.prog 64 #[.agg #[.int .i64 r, .int .i64 v, .string x.nm, .slice qx x.args.length dx, .int .i64 g], .agg #[.int .i64 r', .int .i64 v', .string y.nm, .slice qy y.args.length dy, .int .i64 g']] w fun e w' => e = .returned (.int .i64 (orL [cmpI r r', cmpI v v', cmpT x y])) ∧ Below w.heap.size w w' := by
  obtain ⟨W2, hW2⟩ : ∃ z, z = (w.alloc (.cells #[.int .i64 r, .int .i64 v, .string x.nm, .slice qx x.args.length dx, .int .i64 g] 62)).alloc (.cells #[.int .i64 r', .int .i64 v', .string y.nm, .slice qy y.args.length dy, .int .i64 g'] 62) := ⟨_, rfl⟩
  have K2 : Hid (Below w.heap.size w W2) := Lib.hid (by rw [hW2]; exact next0 (below_alloc _ _) (below_alloc _ _))
  have HX : Hid (Has W2 w.heap.size #[.int .i64 r, .int .i64 v, .string x.nm, .slice qx x.args.length dx, .int .i64 g]) := Lib.hid (by rw [hW2]; exact (Has.new _ _ _).alloc _)
  have HY : Hid (Has W2 (w.heap.size + 1) #[.int .i64 r', .int .i64 v', .string y.nm, .slice qy y.args.length dy, .int .i64 g']) := Lib.hid (by rw [hW2]; exact Has.new1 _ _ _ _)
  have hz := K2.out.size
  have Hb : Hid (∀ w', Below W2.heap.size W2 w' → w'.cell? ⟨w.heap.size, 0, none⟩ = some (.int .i64 r) ∧ w'.cell? ⟨w.heap.size, 1, none⟩ = some (.int .i64 v) ∧ w'.cell? ⟨w.heap.size, 2, none⟩ = some (.string x.nm) ∧ w'.cell? ⟨w.heap.size, 2 + 1, none⟩ = some (.slice qx x.args.length dx) ∧ w'.cell? ⟨w.heap.size + 1, 0, none⟩ = some (.int .i64 r') ∧ w'.cell? ⟨w.heap.size + 1, 1, none⟩ = some (.int .i64 v') ∧ w'.cell? ⟨w.heap.size + 1, 2, none⟩ = some (.string y.nm) ∧ w'.cell? ⟨w.heap.size + 1, 2 + 1, none⟩ = some (.slice qy y.args.length dy)) := Lib.hid (fun w' q => ⟨(HX.out.step0 q).cell 0, (HX.out.step0 q).cell 1, (HX.out.step0 q).cell 2, (HX.out.step0 q).cell 3, (HY.out.step0 q).cell 0, (HY.out.step0 q).cell 1, (HY.out.step0 q).cell 2, (HY.out.step0 q).cell 3⟩)
  have KT := Lib.hid (fun w' (q : Below W2.heap.size W2 w') => TermR.cmp_any x B w' _ y _ (by have := q.size; omega) hn hn' (hx.frame fun b o (hb : b < B) => (K2.out.trans (q.mono hz)).cell (p := ⟨b, o, none⟩) (Nat.lt_of_lt_of_le hb hB)) (hy.frame fun b o (hb : b < B) => (K2.out.trans (q.mono hz)).cell (p := ⟨b, o, none⟩) (Nat.lt_of_lt_of_le hb hB)))
  have KI := Lib.hid (fun w' => cmpi_any r r' w')
  have KV := Lib.hid (fun w' => cmpi_any v v' w')
  have KO := Lib.hid (fun a b c w' => or3 a b c w')
  have KW := Lib.hid (fun w' (q : Below W2.heap.size W2 w') => show Below w.heap.size w w' from K2.out.trans (q.mono hz))
  clear hx hy hn hn' HX HY hz
  generalize cmpT x y = ct at *
  generalize cmpI r r' = ci at *
  generalize cmpI v v' = cv at *
  generalize x.nm = xn at *
  generalize x.args.length = xa at *
  generalize y.nm = yn at *
  generalize y.args.length = ya at *
  go_enter Tryz.func64, Tryz.ntmps64
  go_upto_region 1 with fail
  rw [← hW2]
  clear hW2
  have hq0 : Hid (Below W2.heap.size W2 W2.drew) := Lib.hid (Below.refl _ _).drew
  obtain ⟨x1, x2, x3, x4, x5, x6, x7, x8⟩ := Hb.out _ hq0.out
  go_region_held3 (fun w' => w'.cell? ⟨w.heap.size, 0, none⟩ = some (.int .i64 r) ∧ w'.cell? ⟨w.heap.size, 1, none⟩ = some (.int .i64 v) ∧ w'.cell? ⟨w.heap.size, 2, none⟩ = some (.string xn) ∧ w'.cell? ⟨w.heap.size, 2 + 1, none⟩ = some (.slice qx xa dx) ∧ w'.cell? ⟨w.heap.size + 1, 0, none⟩ = some (.int .i64 r') ∧ w'.cell? ⟨w.heap.size + 1, 1, none⟩ = some (.int .i64 v') ∧ w'.cell? ⟨w.heap.size + 1, 2, none⟩ = some (.string yn) ∧ w'.cell? ⟨w.heap.size + 1, 2 + 1, none⟩ = some (.slice qy ya dy))
    (first | (with_reducible assumption) | (with_reducible exact ⟨‹_›, ‹_›, ‹_›, ‹_›, ‹_›, ‹_›, ‹_›, ‹_›⟩) | (with_reducible refine Hb.out _ ?_; repeat (first | (with_reducible exact Hid.out (by assumption)) | (with_reducible exact Below.refl _ _) | (with_reducible refine Below.drew ?_) | (with_reducible refine b_more ?_ _))))
    (first | (go_at_call 59; (try go_split_ands); (with_reducible refine (KT.out _ (by repeat (first | (with_reducible exact Hid.out (by assumption)) | (with_reducible exact Below.refl _ _) | (with_reducible refine Below.drew ?_) | (with_reducible refine b_more ?_ _)))).mono ?_); rintro e w' ⟨rfl, q0⟩; (have qt : Below W2.heap.size W2 w' := by (refine next0 ?_ q0.1; repeat (first | (with_reducible exact Hid.out (by assumption)) | (with_reducible exact Below.refl _ _) | (with_reducible refine Below.drew ?_) | (with_reducible refine b_more ?_ _)))); clear q0; (have QT := Lib.hid qt); obtain ⟨t1, t2, t3, t4, t5, t6, t7, t8⟩ := Hb.out _ qt) | (go_at_call 77; (try go_split_ands); (with_reducible refine (KI.out _).mono ?_); rintro e w' ⟨rfl, rfl⟩) | (go_at_call 77; (try go_split_ands); (with_reducible refine (KV.out _).mono ?_); rintro e w' ⟨rfl, rfl⟩) | (go_at_call 80; (try go_split_ands); (with_reducible refine (KO.out _ _ _ _).mono ?_); rintro e w' ⟨rfl, rfl⟩))
  all_goals
    go_wp2_with fail
    go_ret
    exact ⟨rfl, KW.out _ (b_more QT.out _)⟩
end NetE
end Go.Proofs.YtgbbpliihglijaaGreat
/- The error of a gate, as the package finds it. No conditions. Made by gnF.py. -/
namespace Go.Proofs.YtgbbpliihglijaaGreat
open Go Go.RowKit
namespace NetF
open Kit LexM TermM TermI NetM NetN NetK NetA NetB NetC
set_option maxRecDepth 100000 in
set_option maxHeartbeats 6400000 in
theorem gatee_any (n : Nt) (h : Nh) (i : Nat) (g : Gt) (B : Nat) (w : World) (hB : B ≤ w.heap.size) (k : NetIn (· < B) w n h) (hg : n.gates[i]? = some g) :
    Calls Tryz.prog 43 #[.agg #[.slice h.gp n.gates.length h.gc, .slice h.rp n.roles.length h.rc, .slice h.bp n.bases.length h.bc, .slice h.ip n.inputs.length h.ic, .slice h.ap n.initial.length h.ac, .slice h.np n.next.length h.nc, .slice h.lp n.legal.length h.lc, .slice h.op n.goals.length h.oc, .slice h.sp n.sees.length h.sc, .int .i64 n.last, .bool n.hid], .int .i64 i] w fun e w' => e = .returned (.int .i64 (gateE n i g)) ∧ Below w.heap.size w w' := by
  obtain ⟨gk, gx, gl⟩ := g
  obtain ⟨v, b, o, egp, hb, hin, hc⟩ := k.gates.at hg
  obtain ⟨p, c, ev⟩ : ∃ p c, v = .slice p gl.length c := hin.1.form
  subst ev
  have EGP := Lib.hid egp
  clear egp
  have hi := (List.getElem?_eq_some_iff.1 hg).1
  have hcap := k.gates.cap
  have c0 : w.cell? ⟨b, o + i * 3, none⟩ = some (.int .i64 gk) := hc 0 _ rfl
  have c1 : w.cell? ⟨b, o + i * 3 + 1, none⟩ = some (.int .i64 gx) := hc 1 _ rfl
  have c2 : w.cell? ⟨b, o + i * 3 + 2, none⟩ = some (.slice p gl.length c) := hc 2 _ rfl
  have hbw : b < w.heap.size := by have : b < B := hb; omega
  obtain ⟨W1, hW1⟩ : ∃ z, z = w.alloc (.cells #[.slice h.gp n.gates.length h.gc, .slice h.rp n.roles.length h.rc, .slice h.bp n.bases.length h.bc, .slice h.ip n.inputs.length h.ic, .slice h.ap n.initial.length h.ac, .slice h.np n.next.length h.nc, .slice h.lp n.legal.length h.lc, .slice h.op n.goals.length h.oc, .slice h.sp n.sees.length h.sc, .int .i64 n.last, .bool n.hid] 28) := ⟨_, rfl⟩
  obtain ⟨W2, hW2⟩ : ∃ z, z = W1.alloc (.cells #[.int .i64 gk, .int .i64 gx, .slice p gl.length c] 55) := ⟨_, rfl⟩
  have K1 : Hid (Below w.heap.size w W1) := Lib.hid (by rw [hW1]; exact below_alloc _ _)
  have hz1 : W1.heap.size = w.heap.size + 1 := by rw [hW1]; simp
  have K12 : Hid (Below W1.heap.size W1 W2) := Lib.hid (by rw [hW2]; exact below_alloc _ _)
  have K2 := Lib.hid (next0 K1.out K12.out)
  have hz2 : W2.heap.size = w.heap.size + 2 := by rw [hW2, World.size_alloc, hz1]
  have H1 : Hid (Has W1 w.heap.size (netC n h)) := Lib.hid (by rw [hW1]; exact Has.new _ _ _)
  have H2 : Hid (Has W2 (w.heap.size + 1) #[.int .i64 gk, .int .i64 gx, .slice p gl.length c]) := Lib.hid (by rw [hW2, ← hz1]; exact Has.new _ _ _)
  have N2 := Lib.hid (H1.out.step0 K12.out)
  have d0 := (K1.out.cell (p := ⟨b, o + i * 3, none⟩) hbw).trans c0
  have d1 := (K1.out.cell (p := ⟨b, o + i * 3 + 1, none⟩) hbw).trans c1
  have d2 := (K1.out.cell (p := ⟨b, o + i * 3 + 2, none⟩) hbw).trans c2
  have ik : (i : Int) < n.gates.length := by omega
  have i0 : (0 : Int) ≤ (i : Int) := by omega
  have hzz : w.heap.size ≤ W2.heap.size := by omega
  have KW := Lib.hid (fun w' (q : Below W2.heap.size W2 w') => show Below w.heap.size w w' from K2.out.trans (q.mono hzz))
  have RI := Lib.hid (fun w' => indices_any n h gk w')
  have RB := Lib.hid (fun w' => below_any gx (mostIx n gk) w')
  have RR := Lib.hid (fun w' => reads_any gk gx p gl.length c w')
  have RA := Lib.hid (fun w' (q : Below W2.heap.size W2 w') => ascb_any gl i B w' (.slice p gl.length c) (by have := q.size; omega) (hin.1.keep fun b o (hb : b < B) => (KW.out w' q).cell (p := ⟨b, o, none⟩) (Nat.lt_of_lt_of_le hb hB)))
  have G20 : Hid (inB gk 7 = false → gateE n i (gk, gx, gl) = 20) := Lib.hid (fun e => by unfold gateE; rw [if_pos e])
  have G12 : Hid (inB gk 7 = true → inB gx (mostIx n gk) = false → gateE n i (gk, gx, gl) = 12) := Lib.hid (fun e e2 => by unfold gateE; rw [if_neg (by rw [e]; decide), if_pos e2])
  have G13 : Hid (inB gk 7 = true → inB gx (mostIx n gk) = true → readsB gk gl.length = false → gateE n i (gk, gx, gl) = 13) := Lib.hid (fun e e2 e3 => by unfold gateE; rw [if_neg (by rw [e]; decide), if_neg (by rw [e2]; decide), if_pos e3])
  have G25 : Hid (inB gk 7 = true → inB gx (mostIx n gk) = true → readsB gk gl.length = true → numsB gl i = false → gateE n i (gk, gx, gl) = 25) := Lib.hid (fun e e2 e3 e4 => by unfold gateE; rw [if_neg (by rw [e]; decide), if_neg (by rw [e2]; decide), if_neg (by rw [e3]; decide), if_pos e4])
  have G0 : Hid (inB gk 7 = true → inB gx (mostIx n gk) = true → readsB gk gl.length = true → numsB gl i = true → gateE n i (gk, gx, gl) = 0) := Lib.hid (fun e e2 e3 e4 => by unfold gateE; rw [if_neg (by rw [e]; decide), if_neg (by rw [e2]; decide), if_neg (by rw [e3]; decide), if_neg (by rw [e4]; decide)])
  have NI : Hid (inB gk 7 = (decide (0 ≤ gk) && decide (gk < 7))) := Lib.hid rfl
  clear hc hin hg k hi hcap c0 c1 c2 hz2
  generalize gateE n i (gk, gx, gl) = R at *
  generalize gl.length = m at *
  generalize hnb : numsB gl i = nb at *
  clear hnb
  generalize hrb : readsB gk m = rb at *
  clear hrb
  generalize hib : inB gx (mostIx n gk) = ib at *
  clear hib
  generalize mostIx n gk = mx at *
  obtain ⟨q1, q2, q3, q4, q5, q6, q7, q8, q9, q10, q11⟩ := hasN H1.out
  go_enter Tryz.func43, Tryz.ntmps43
  go_upto_region 1 with fail
  rw [← hW1]
  clear hW1
  have egp := EGP.out
  go_upto_region 2 with fail
  rw [← hW2]
  clear hW2 d0 d1 d2 egp H1 q1 q2 q3 q4 q5 q6 q7 q8 q9 q10 q11
  have Hb : Hid (∀ w', Below W2.heap.size W2 w' → w'.cell? ⟨w.heap.size, 0, none⟩ = some (.slice h.gp n.gates.length h.gc) ∧ w'.cell? ⟨w.heap.size, 1, none⟩ = some (.slice h.rp n.roles.length h.rc) ∧ w'.cell? ⟨w.heap.size, 2, none⟩ = some (.slice h.bp n.bases.length h.bc) ∧ w'.cell? ⟨w.heap.size, 3, none⟩ = some (.slice h.ip n.inputs.length h.ic) ∧ w'.cell? ⟨w.heap.size, 4, none⟩ = some (.slice h.ap n.initial.length h.ac) ∧ w'.cell? ⟨w.heap.size, 5, none⟩ = some (.slice h.np n.next.length h.nc) ∧ w'.cell? ⟨w.heap.size, 6, none⟩ = some (.slice h.lp n.legal.length h.lc) ∧ w'.cell? ⟨w.heap.size, 7, none⟩ = some (.slice h.op n.goals.length h.oc) ∧ w'.cell? ⟨w.heap.size, 8, none⟩ = some (.slice h.sp n.sees.length h.sc) ∧ w'.cell? ⟨w.heap.size, 9, none⟩ = some (.int .i64 n.last) ∧ w'.cell? ⟨w.heap.size, 10, none⟩ = some (.bool n.hid) ∧ w'.cell? ⟨w.heap.size + 1, 0, none⟩ = some (.int .i64 gk) ∧ w'.cell? ⟨w.heap.size + 1, 1, none⟩ = some (.int .i64 gx) ∧ w'.cell? ⟨w.heap.size + 1, 2, none⟩ = some (.slice p m c)) := Lib.hid (fun w' q => ⟨(N2.out.step0 q).cell 0, (N2.out.step0 q).cell 1, (N2.out.step0 q).cell 2, (N2.out.step0 q).cell 3, (N2.out.step0 q).cell 4, (N2.out.step0 q).cell 5, (N2.out.step0 q).cell 6, (N2.out.step0 q).cell 7, (N2.out.step0 q).cell 8, (N2.out.step0 q).cell 9, (N2.out.step0 q).cell 10, (H2.out.step0 q).cell 0, (H2.out.step0 q).cell 1, (H2.out.step0 q).cell 2⟩)
  obtain ⟨x1, x2, x3, x4, x5, x6, x7, x8, x9, x10, x11, x12, x13, x14⟩ := Hb.out _ (Below.refl _ _)
  by_cases h0 : gk < 0
  · have e0 := Lib.hid (G20.out (by rw [NI.out, decide_eq_false (by omega)]; rfl))
    clear G20 G12 G13 G25 G0 NI
    go_wp2_with fail
    go_ret
    exact ⟨by rw [e0.out]; rfl, K2.out⟩
  by_cases h7 : 7 ≤ gk
  · have e0 := Lib.hid (G20.out (by rw [NI.out, decide_eq_false (show ¬ gk < 7 by omega), Bool.and_false]))
    clear G20 G12 G13 G25 G0 NI
    go_wp2_with fail
    go_ret
    exact ⟨by rw [e0.out]; rfl, K2.out⟩
  have ek : inB gk 7 = true := by rw [NI.out, decide_eq_true (by omega), decide_eq_true (by omega)]; rfl
  have G12a := Lib.hid (G12.out ek)
  have G13a := Lib.hid (G13.out ek)
  have G25a := Lib.hid (G25.out ek)
  have G0a := Lib.hid (G0.out ek)
  clear ek G20 G12 G13 G25 G0 NI
  go_upto_region 4 with fail
  go_cut [20] (fun s wx => s = .bool (!ib) ∧ Hid (Below W2.heap.size W2 wx))
  case first =>
    have hq0 : Hid (Below W2.heap.size W2 W2.drew) := Lib.hid (Below.refl _ _).drew
    clear x1 x2 x3 x4 x5 x6 x7 x8 x9 x10 x11 x12 x13 x14
    obtain ⟨x1, x2, x3, x4, x5, x6, x7, x8, x9, x10, x11, x12, x13, x14⟩ := Hb.out _ hq0.out
    go_region_held3 (fun w' => w'.cell? ⟨w.heap.size, 0, none⟩ = some (.slice h.gp n.gates.length h.gc) ∧ w'.cell? ⟨w.heap.size, 1, none⟩ = some (.slice h.rp n.roles.length h.rc) ∧ w'.cell? ⟨w.heap.size, 2, none⟩ = some (.slice h.bp n.bases.length h.bc) ∧ w'.cell? ⟨w.heap.size, 3, none⟩ = some (.slice h.ip n.inputs.length h.ic) ∧ w'.cell? ⟨w.heap.size, 4, none⟩ = some (.slice h.ap n.initial.length h.ac) ∧ w'.cell? ⟨w.heap.size, 5, none⟩ = some (.slice h.np n.next.length h.nc) ∧ w'.cell? ⟨w.heap.size, 6, none⟩ = some (.slice h.lp n.legal.length h.lc) ∧ w'.cell? ⟨w.heap.size, 7, none⟩ = some (.slice h.op n.goals.length h.oc) ∧ w'.cell? ⟨w.heap.size, 8, none⟩ = some (.slice h.sp n.sees.length h.sc) ∧ w'.cell? ⟨w.heap.size, 9, none⟩ = some (.int .i64 n.last) ∧ w'.cell? ⟨w.heap.size, 10, none⟩ = some (.bool n.hid) ∧ w'.cell? ⟨w.heap.size + 1, 0, none⟩ = some (.int .i64 gk) ∧ w'.cell? ⟨w.heap.size + 1, 1, none⟩ = some (.int .i64 gx) ∧ w'.cell? ⟨w.heap.size + 1, 2, none⟩ = some (.slice p m c))
      (first | (with_reducible assumption) | (with_reducible exact ⟨‹_›, ‹_›, ‹_›, ‹_›, ‹_›, ‹_›, ‹_›, ‹_›, ‹_›, ‹_›, ‹_›, ‹_›, ‹_›, ‹_›⟩) | (with_reducible refine Hb.out _ ?_; repeat (first | (with_reducible exact Hid.out (by assumption)) | (with_reducible exact Below.refl _ _) | (with_reducible refine Below.drew ?_) | (with_reducible refine b_more ?_ _))))
      (first | (go_at_call 54; (try go_split_ands); (with_reducible refine (RI.out _).mono ?_); rintro e w' ⟨rfl, q0⟩; (have qg : Below W2.heap.size W2 w' := by (refine next0 ?_ q0; repeat (first | (with_reducible exact Hid.out (by assumption)) | (with_reducible exact Below.refl _ _) | (with_reducible refine Below.drew ?_) | (with_reducible refine b_more ?_ _)))); clear q0; obtain ⟨y1, y2, y3, y4, y5, y6, y7, y8, y9, y10, y11, y12, y13, y14⟩ := Hb.out _ qg) | (go_at_call 53; (try go_split_ands); (with_reducible refine (RB.out _).mono ?_); rintro e w' ⟨rfl, rfl⟩))
    all_goals
      go_wp2_with fail
      go_meet
      exact ⟨rfl, Lib.hid qg⟩
  case rest =>
    obtain ⟨rfl, hQ2⟩ := hcut
    clear x1 x2 x3 x4 x5 x6 x7 x8 x9 x10 x11 x12 x13 x14
    obtain ⟨x1, x2, x3, x4, x5, x6, x7, x8, x9, x10, x11, x12, x13, x14⟩ := Hb.out _ hQ2.out
    cases ib
    · have e0 := Lib.hid (G12a.out rfl)
      have D := Lib.hid (KW.out _ hQ2.out)
      go_wp2_with fail
      go_ret
      exact ⟨by rw [e0.out]; rfl, D.out⟩
    have G13b := Lib.hid (G13a.out rfl)
    have G25b := Lib.hid (G25a.out rfl)
    have G0b := Lib.hid (G0a.out rfl)
    clear G12a G13a G25a G0a
    go_wp2_with fail
    refine (RR.out _).mono ?_
    rintro e w3 ⟨rfl, q3⟩
    have Q3 := Lib.hid (next0 hQ2.out q3)
    clear x1 x2 x3 x4 x5 x6 x7 x8 x9 x10 x11 x12 x13 x14 q3
    obtain ⟨x1, x2, x3, x4, x5, x6, x7, x8, x9, x10, x11, x12, x13, x14⟩ := Hb.out _ Q3.out
    cases rb
    · have e0 := Lib.hid (G13b.out rfl)
      have D := Lib.hid (KW.out _ Q3.out)
      go_wp2_with fail
      go_ret
      exact ⟨by rw [e0.out]; rfl, D.out⟩
    have G25c := Lib.hid (G25b.out rfl)
    have G0c := Lib.hid (G0b.out rfl)
    have RA3 := Lib.hid (RA.out _ Q3.out)
    clear G13b G25b G0b RA
    go_wp2_with fail
    refine RA3.out.mono ?_
    rintro e w4 ⟨rfl, q4⟩
    have Q4 := Lib.hid (next0 Q3.out q4)
    clear x1 x2 x3 x4 x5 x6 x7 x8 x9 x10 x11 x12 x13 x14 q4
    have D := Lib.hid (KW.out _ Q4.out)
    cases nb
    · have e0 := Lib.hid (G25c.out rfl)
      go_wp2_with fail
      go_ret
      exact ⟨by rw [e0.out]; rfl, D.out⟩
    · have e0 := Lib.hid (G0c.out rfl)
      go_wp2_with fail
      go_ret
      exact ⟨by rw [e0.out]; rfl, D.out⟩
end NetF
end Go.Proofs.YtgbbpliihglijaaGreat
