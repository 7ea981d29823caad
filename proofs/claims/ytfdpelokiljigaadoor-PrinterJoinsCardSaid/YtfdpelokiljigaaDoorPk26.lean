/- Texts laid together: RefF; RefJ0. Their own heads stand before each. -/
import Derived.Test.YtfdpelokiljigaaDoorPk25
import Derived.Test.YtfdpelokiljigaaDoorPk10
/- The reference's reader: literal. No conditions but a reader in memory. -/
namespace Go.Proofs.YtfdpelokiljigaaDoor
open Go Go.RowKit
namespace RefF
open Kit LexM TermM TermI TermU LexE LexF LexG LexP LexQ ParM ParA ParB ParC ParD ParK ParE ParG ParV ParN RefA RefB RefC0 RefC RefD
def LtO (r : Nat) (w : World) (o : Out Lt) (e : Ending) (w' : World) : Prop :=
  (∃ x ts p c, o = .good x ts ∧ e = .returned (.agg #[.bool x.1, .string x.2.nm, .slice p x.2.args.length c]) ∧ SlIn (fun b => w.heap.size ≤ b ∧ b < w'.heap.size) w' x.2.args (.slice p x.2.args.length c) ∧ x.2.nm.size ≤ maxLen ∧ RR w' r ts 0 0 ∧ Ch r w w') ∨
  (∃ a er b nm p m c ts, o = .bad a er ∧ e = .returned (.agg #[.bool b, .string nm, .slice p m c]) ∧ RR w' r ts a er ∧ er ≠ 0 ∧ Ch r w w')
set_option maxRecDepth 100000 in
set_option maxHeartbeats 3200000 in
theorem literal_ok (r : Nat) (w : World) (ts : List GTok) (h : RR w r ts 0 0) :
    Calls Tryd.prog 82 #[.pointer (some ⟨r, 0, none⟩)] w (LtO r w (litF ts)) := by
  obtain ⟨W1, hW1⟩ : ∃ W1, W1 = w.alloc (.cells #[.bool false, .string ⟨#[]⟩, .slice none 0 0] 32) := ⟨_, rfl⟩
  have G1 : Below w.heap.size w W1 := by rw [hW1]; exact below_alloc w _
  have H1 : Hid (Has W1 w.heap.size #[.bool false, .string ⟨#[]⟩, .slice none 0 0]) := Lib.hid (by rw [hW1]; exact Has.new _ _ _)
  have hr := h.lt
  have R1 := h.below G1
  have C1 := Lib.hid (Ch.of (r := r) G1)
  have HRR := Lib.hid R1
  have hneZ : w.heap.size ≠ r := by omega
  have HS1 : Hid (W1.heap.size = w.heap.size + 1) := Lib.hid (by rw [hW1]; simp)
  have HW1 := Lib.hid hW1
  cases hb : isB (hd ts) sNot with
  | false =>
    have HO : Hid (litF ts = (atomF ts).then fun t r => .good (false, t) r) := Lib.hid (by unfold litF; rw [if_neg (by rw [hb]; decide)])
    have I1 := Lib.hid (is_no W1 r ts 0 sNot R1 hb)
    generalize litF ts = O at *
    clear R1 G1 h hb
    unfold LtO
    go_enter Tryd.func82, Tryd.ntmps82
    go_upto_region 1 with fail
    rw [← hW1]
    clear hW1
    go_wp2_with fail
    refine I1.out.mono ?_
    rintro e w2 ⟨rfl, k⟩
    have CX := Lib.hid (C1.out.below k)
    have ZX := Lib.hid (H1.out.step0 k)
    have HSX := Lib.hid k.size
    have AT := Lib.hid (RefE.atom_ok r w2 ts (HRR.out.below k))
    clear k I1 HRR
    unfold TmO at AT
    generalize atomF ts = OA at *
    go_wp2_with fail
    refine AT.out.mono ?_
    rintro e w5 (⟨t, ts5, p, c, hO, rfl, hS, hn, hR, hC⟩ | ⟨a, er, nm, p, m, c, ts5, hO, rfl, hR, her, hC⟩)
    · have R5 := Lib.hid hR
      have S5 := Lib.hid hS
      have N5 := Lib.hid hn
      have OO : Hid (O = .good (false, t) ts5) := Lib.hid (by rw [HO.out, hO]; rfl)
      have C5 := Lib.hid (CX.out.trans hC)
      have hsz := Lib.hid CX.out.size
      obtain ⟨q1, q2, q3, q4, q5, q6, q7⟩ := has3 (hC.has ZX.out hneZ)
      clear hR hS hn hO hC AT
      go_wp2_with fail
      refine bodyPost_ret (v := .agg #[.bool false, .string t.nm, .slice p t.args.length c]) (by simp [results, Tryd.results82, go_sem, q1, q2, q3]) rfl (Or.inl ⟨(false, t), ts5, p, c, OO.out, rfl, ?_, N5.out, ?_, ?_⟩)
      · refine (S5.out.frame (fun b o hk => ?_)).weaken (fun b hb => ?_)
        · have hk1 : w2.heap.size ≤ b := hk.1
          have h1 := HS1.out
          have h2 := HSX.out
          exact (cell_set (by show b ≠ w.heap.size; omega) _).trans ((cell_set (by show b ≠ w.heap.size; omega) _).trans (cell_set (by show b ≠ w.heap.size; omega) _))
        · have hb1 : w2.heap.size ≤ b := hb.1
          have h1 := HS1.out
          have h2 := HSX.out
          exact ⟨by omega, by rw [set_size, set_size, set_size]; exact hb.2⟩
      · exact RR.far (RR.far (RR.far R5.out (by exact hr) _) (by exact hr) _) (by exact hr) _
      · exact ((C5.out.put (Or.inr (by exact Nat.le_refl _)) _).put (Or.inr (by exact Nat.le_refl _)) _).put (Or.inr (by exact Nat.le_refl _)) _
    · have R5 := Lib.hid hR
      have E5 := Lib.hid her
      have OO : Hid (O = .bad a er) := Lib.hid (by rw [HO.out, hO]; rfl)
      have C5 := Lib.hid (CX.out.trans hC)
      obtain ⟨q1, q2, q3, q4, q5, q6, q7⟩ := has3 (hC.has ZX.out hneZ)
      clear hR her hO hC AT
      go_wp2_with fail
      refine bodyPost_ret (v := .agg #[.bool false, .string nm, .slice p m c]) (by simp [results, Tryd.results82, go_sem, q1, q2, q3]) rfl (Or.inr ⟨a, er, false, nm, p, m, c, ts5, OO.out, rfl, ?_, E5.out, ?_⟩)
      · exact RR.far (RR.far (RR.far R5.out (by exact hr) _) (by exact hr) _) (by exact hr) _
      · exact ((C5.out.put (Or.inr (by exact Nat.le_refl _)) _).put (Or.inr (by exact Nat.le_refl _)) _).put (Or.inr (by exact Nat.le_refl _)) _
  | true =>
    have HO : Hid (litF ts = (atomF ts.tail).then fun t r => .good (true, t) r) := Lib.hid (by unfold litF; rw [if_pos hb])
    have I1 := Lib.hid (is_yes W1 r ts 0 sNot (Or.inr (Or.inr (Or.inr (Or.inr (Or.inr (Or.inr rfl)))))) R1 hb)
    have NE := Lib.hid (isB_ne hb lit_ne.2.2.2.2.2.2)
    generalize litF ts = O at *
    clear R1 G1 h hb
    unfold LtO
    go_enter Tryd.func82, Tryd.ntmps82
    go_upto_region 1 with fail
    rw [← hW1]
    clear hW1
    go_wp2_with fail
    refine I1.out.mono ?_
    rintro e w2 ⟨rfl, k⟩
    have R2 := Lib.hid (HRR.out.below k)
    have C2 := Lib.hid (C1.out.below k)
    have Z2 := Lib.hid (H1.out.step0 k)
    have HS2 := Lib.hid k.size
    clear k I1 HRR
    obtain ⟨g, o, c, n, i, i1, i2, i3, i4, i5, x1, x2, x3, x4, f1, f2, f3, _⟩ := R2.out.open
    have hi1 : (i : Int) < 20000 := by omega
    have hi0 : 0 ≤ (i : Int) := by omega
    have RX := Lib.hid (R2.out.pass (Or.inr NE.out) x2)
    have CX := Lib.hid (C2.out.put (p := ⟨r, 1, none⟩) (Or.inl rfl) (.int .i64 ((i : Int) + 1)))
    have ZX := Lib.hid (Z2.out.far (p := ⟨r, 1, none⟩) hneZ (.int .i64 ((i : Int) + 1)))
    have HSX : Hid (W1.heap.size ≤ (w2.setCell ⟨r, 1, none⟩ (.int .i64 ((i : Int) + 1))).heap.size) := Lib.hid (by rw [set_size]; exact HS2.out)
    clear R2 C2 Z2 HS2
    go_upto_region 4 with fail
    generalize w2.setCell ⟨r, 1, none⟩ (.int .i64 ((i : Int) + 1)) = w3 at *
    clear i1 i2 i3 i4 i5 hi1 hi0 x1 x2 x3 x4 f1 f2 f3
    have AT := Lib.hid (RefE.atom_ok r w3 ts.tail RX.out)
    unfold TmO at AT
    generalize atomF ts.tail = OA at *
    go_wp2_with fail
    refine AT.out.mono ?_
    rintro e w5 (⟨t, ts5, p, c, hO, rfl, hS, hn, hR, hC⟩ | ⟨a, er, nm, p, m, c, ts5, hO, rfl, hR, her, hC⟩)
    · have R5 := Lib.hid hR
      have S5 := Lib.hid hS
      have N5 := Lib.hid hn
      have OO : Hid (O = .good (true, t) ts5) := Lib.hid (by rw [HO.out, hO]; rfl)
      have C5 := Lib.hid (CX.out.trans hC)
      have hsz := Lib.hid CX.out.size
      obtain ⟨q1, q2, q3, q4, q5, q6, q7⟩ := has3 (hC.has ZX.out hneZ)
      clear hR hS hn hO hC AT
      go_wp2_with fail
      refine bodyPost_ret (v := .agg #[.bool true, .string t.nm, .slice p t.args.length c]) (by simp [results, Tryd.results82, go_sem, q1, q2, q3]) rfl (Or.inl ⟨(true, t), ts5, p, c, OO.out, rfl, ?_, N5.out, ?_, ?_⟩)
      · refine (S5.out.frame (fun b o hk => ?_)).weaken (fun b hb => ?_)
        · have hk1 : w3.heap.size ≤ b := hk.1
          have h1 := HS1.out
          have h2 := HSX.out
          exact (cell_set (by show b ≠ w.heap.size; omega) _).trans ((cell_set (by show b ≠ w.heap.size; omega) _).trans (cell_set (by show b ≠ w.heap.size; omega) _))
        · have hb1 : w3.heap.size ≤ b := hb.1
          have h1 := HS1.out
          have h2 := HSX.out
          exact ⟨by omega, by rw [set_size, set_size, set_size]; exact hb.2⟩
      · exact RR.far (RR.far (RR.far R5.out (by exact hr) _) (by exact hr) _) (by exact hr) _
      · exact ((C5.out.put (Or.inr (by exact Nat.le_refl _)) _).put (Or.inr (by exact Nat.le_refl _)) _).put (Or.inr (by exact Nat.le_refl _)) _
    · have R5 := Lib.hid hR
      have E5 := Lib.hid her
      have OO : Hid (O = .bad a er) := Lib.hid (by rw [HO.out, hO]; rfl)
      have C5 := Lib.hid (CX.out.trans hC)
      obtain ⟨q1, q2, q3, q4, q5, q6, q7⟩ := has3 (hC.has ZX.out hneZ)
      clear hR her hO hC AT
      go_wp2_with fail
      refine bodyPost_ret (v := .agg #[.bool true, .string nm, .slice p m c]) (by simp [results, Tryd.results82, go_sem, q1, q2, q3]) rfl (Or.inr ⟨a, er, true, nm, p, m, c, ts5, OO.out, rfl, ?_, E5.out, ?_⟩)
      · exact RR.far (RR.far (RR.far R5.out (by exact hr) _) (by exact hr) _) (by exact hr) _
      · exact ((C5.out.put (Or.inr (by exact Nat.le_refl _)) _).put (Or.inr (by exact Nat.le_refl _)) _).put (Or.inr (by exact Nat.le_refl _)) _
set_option maxRecDepth 100000 in
set_option maxHeartbeats 3200000 in
theorem literal_err (r : Nat) (w : World) (ts : List GTok) (a er : Int) (her : er ≠ 0) (h : RR w r ts a er) :
    Calls Tryd.prog 82 #[.pointer (some ⟨r, 0, none⟩)] w fun e w' => e = .returned (.agg #[.bool false, .string ⟨#[]⟩, .slice none 0 0]) ∧ Below w.heap.size w w' := by
  obtain ⟨W1, hW1⟩ : ∃ W1, W1 = w.alloc (.cells #[.bool false, .string ⟨#[]⟩, .slice none 0 0] 32) := ⟨_, rfl⟩
  have G1 : Below w.heap.size w W1 := by rw [hW1]; exact below_alloc w _
  have H1 : Hid (Has W1 w.heap.size #[.bool false, .string ⟨#[]⟩, .slice none 0 0]) := Lib.hid (by rw [hW1]; exact Has.new _ _ _)
  have R1 := h.below G1
  have GG := Lib.hid G1
  have HW1 := Lib.hid hW1
  have I1 := Lib.hid (is_err W1 r ts a er sNot R1 her)
  have AT := Lib.hid (fun w2 (k : Below W1.heap.size W1 w2) => RefE.atom_err r w2 ts a er her (R1.below k))
  clear R1 G1 h her
  go_enter Tryd.func82, Tryd.ntmps82
  go_upto_region 1 with fail
  rw [← hW1]
  clear hW1
  go_wp2_with fail
  refine I1.out.mono ?_
  rintro e w2 ⟨rfl, k⟩
  have A2 := Lib.hid (AT.out w2 k)
  have C2 := Lib.hid (next0 GG.out k)
  have Z2 := Lib.hid (H1.out.step0 k)
  clear k AT I1
  go_wp2_with fail
  refine A2.out.mono ?_
  rintro e w3 ⟨rfl, k⟩
  have C3 := Lib.hid (next0 C2.out k)
  obtain ⟨q1, q2, q3, q4, q5, q6, q7⟩ := has3 (Z2.out.step0 k)
  clear k A2
  go_wp2_with fail
  refine bodyPost_ret (v := .agg #[.bool false, .string ⟨#[]⟩, .slice none 0 0]) (by simp [results, Tryd.results82, go_sem, q1, q2, q3]) rfl ⟨rfl, ?_⟩
  exact ((C3.out.setCell (by exact Nat.le_refl _) _).setCell (by exact Nat.le_refl _) _).setCell (by exact Nat.le_refl _) _
end RefF
end Go.Proofs.YtfdpelokiljigaaDoor
/- The reference's reader: what stands behind one more literal of a rule. No conditions. -/
namespace Go.Proofs.YtfdpelokiljigaaDoor
open Go Go.RowKit
namespace RefJ0
open Kit LexM TermM TermI TermU LexE LexF LexG LexP LexQ ParM ParA ParB ParC ParD ParK ParE ParG ParV ParN RefA RefB RefC0 RefC RefD RefF
/-- A literal at a place where too many are an error. -/
def litT (n : Nat) (ts : List GTok) : Out Lt := if (decide (n = 8) && (isB (hd ts) sNot || atomB (hd ts))) = true then .bad (hd ts).2.2 2 else litF ts
def goL (l : List Lt) (ts : List GTok) : Out (List Lt) := (litT l.length ts).then fun x r => litsF (8 - l.length) (l ++ [x]) r
theorem body_go (ts : List GTok) : bodyF ts = goL [] ts := by
  unfold bodyF goL litT
  rw [if_neg (by simp)]
  rfl
theorem lits_go (l : List Lt) (ts : List GTok) (hl : 1 ≤ l.length) (h8 : l.length ≤ 8) : litsF (9 - l.length) l ts = if isB (hd ts) sAnd = true then goL l ts.tail else .good l ts := by
  obtain ⟨m, hm⟩ : ∃ m, 9 - l.length = m + 1 := ⟨8 - l.length, by omega⟩
  rw [hm, litsF]
  unfold goL litT
  rw [show 8 - l.length = m by omega, Bool.or_comm (isB (hd ts.tail) sNot)]
  split
  · split <;> rfl
  · rfl
def fin (h : Tm) (b : List Lt) (r2 : List GTok) : Out Rl := (expF sDot r2).then fun _ r3 => .good ((h, b) : Rl) r3
theorem rule_fin (ts : List GTok) : ruleF ts = (atomF ts).then fun h r => if isB (hd r) sIf = true then (bodyF r.tail).then (fin h) else fin h [] r := rfl
/-- The head's arguments lie in blocks before X. -/
def HDk (w : World) (X : Nat) (nm : ByteArray) (hp : Option Addr) (hn hc : Nat) (h : Tm) (wr : World) : Prop :=
  nm = h.nm ∧ hn = h.args.length ∧ SlIn (fun b => w.heap.size + 1 ≤ b ∧ b < X) wr h.args (.slice hp hn hc) ∧ h.nm.size ≤ maxLen
theorem HDk.frame {w wr w' : World} {X : Nat} {nm : ByteArray} {hp : Option Addr} {hn hc : Nat} {h : Tm} (k : HDk w X nm hp hn hc h wr) (hf : ∀ b o, w.heap.size + 1 ≤ b → b < X → w'.cell? ⟨b, o, none⟩ = wr.cell? ⟨b, o, none⟩) : HDk w X nm hp hn hc h w' :=
  ⟨k.1, k.2.1, k.2.2.1.frame fun b o hb => hf b o hb.1 hb.2, k.2.2.2⟩
theorem HDk.ch {w wr w' : World} {X r : Nat} {nm : ByteArray} {hp : Option Addr} {hn hc : Nat} {h : Tm} (k : HDk w X nm hp hn hc h wr) (g : Ch r wr w') (hr : r < w.heap.size) (hX : X ≤ wr.heap.size) : HDk w X nm hp hn hc h w' :=
  k.frame fun b o h1 h2 => g.cell (by omega) (by omega)
/-- What a call that reads a literal answers, good or bad. -/
def FctL (r : Nat) (w w2 : World) (o : Out Lt) (b : Bool) (nm : ByteArray) (p : Option Addr) (m c : Nat) : Prop :=
  (∃ x ts, o = .good x ts ∧ b = x.1 ∧ nm = x.2.nm ∧ m = x.2.args.length ∧ SlIn (fun b => w.heap.size ≤ b ∧ b < w2.heap.size) w2 x.2.args (.slice p m c) ∧ x.2.nm.size ≤ maxLen ∧ RR w2 r ts 0 0) ∨
  (∃ a er ts, o = .bad a er ∧ er ≠ 0 ∧ RR w2 r ts a er)
def UL (r : Nat) (w : World) (o : Out Lt) (e : Ending) (w2 : World) : Prop := ∃ b nm p m c, e = .returned (.agg #[.bool b, .string nm, .slice p m c]) ∧ Ch r w w2 ∧ FctL r w w2 o b nm p m c
theorem ul_ok {r : Nat} {w : World} {ts : List GTok} (h : RR w r ts 0 0) : Calls Tryd.prog 82 #[.pointer (some ⟨r, 0, none⟩)] w (UL r w (litF ts)) :=
  (literal_ok r w ts h).mono fun e w2 h => by
    rcases h with ⟨x, ts, p, c, h1, h2, h3, h4, h5, h6⟩ | ⟨a, er, b, nm, p, m, c, ts, h1, h2, h3, h4, h5⟩
    · exact ⟨_, _, _, _, _, h2, h6, Or.inl ⟨x, ts, h1, rfl, rfl, rfl, h3, h4, h5⟩⟩
    · exact ⟨_, _, _, _, _, h2, h5, Or.inr ⟨a, er, ts, h1, h4, h3⟩⟩
theorem ul_err {r : Nat} {w : World} {ts : List GTok} {a er : Int} (h : RR w r ts a er) (her : er ≠ 0) : Calls Tryd.prog 82 #[.pointer (some ⟨r, 0, none⟩)] w (UL r w (.bad a er)) :=
  (literal_err r w ts a er her h).mono fun _ _ ⟨h1, h2⟩ => ⟨_, _, _, _, _, h1, Ch.of h2, Or.inr ⟨a, er, ts, rfl, her, h.below h2⟩⟩
abbrev Z3 : Array Value := #[.string ⟨#[]⟩, .slice none 0 0, .slice none 0 0]
def AftL (r : Nat) (w : World) (X : Nat) (nm : ByteArray) (hp : Option Addr) (hn hc : Nat) (h : Tm) (o : Out Lt) (M : List (Lt × Value)) (wx : World) : Prop :=
  Ch r w wx ∧ Has wx w.heap.size Z3 ∧ X < wx.heap.size ∧
  ((∃ x ts v u, o = .good x ts ∧ HDk w X nm hp hn hc h wx ∧ OwnG KL (X + 1) wx (M ++ [(x, u)]) v ∧ Has wx X #[.string nm, .slice hp hn hc, v] ∧ RR wx r ts 0 0) ∨
   (∃ a er p m c ts, o = .bad a er ∧ er ≠ 0 ∧ Has wx X #[.string nm, .slice hp hn hc, .slice p m c] ∧ RR wx r ts a er))
theorem aftL_of {r X : Nat} {w wr w2 w4 : World} {nm : ByteArray} {hp : Option Addr} {hn hc : Nat} {h : Tm} {o : Out Lt} {M : List (Lt × Value)} {v : Value} {lb : Bool} {ln : ByteArray} {p : Option Addr} {m c g cap : Nat} {ob : Obj}
    (hr : r < w.heap.size) (hX : w.heap.size < X) (hC0 : Ch r w wr) (hZ : Has wr w.heap.size Z3) (hD : HDk w X nm hp hn hc h wr) (hT : Has wr X #[.string nm, .slice hp hn hc, v]) (hO : OwnG KL (X + 1) wr M v)
    (hC : Ch r wr w2) (hF : FctL r wr w2 o lb ln p m c)
    (hown : w4.ownsRow (X + 1) 32 3 (.slice (some ⟨g, 0, none⟩) (M.length + 1) cap) (M.length + 1) (KL.flat M ++ [.bool lb, .string ln, .slice p m c])) (hgrow : (w2.alloc ob).grownBy w4 v.ownBlock) (hat : v.ownBlock = some g ∨ g = w2.heap.size + 1) :
    AftL r w X nm hp hn hc h o M (w4.setCell ⟨X, 2, none⟩ (.slice (some ⟨g, 0, none⟩) (M.length + 1) cap)) := by
  have hvb : ∀ k, v.ownBlock = some k → X + 1 ≤ k ∧ k < wr.heap.size := fun k hk => hO.1.lt k hk
  have hTl := hT.lt
  have fr : ∀ {gg : Nat} {cs : Array Value}, Has wr gg cs → gg ≠ r → gg < X + 1 → Has w4 gg cs := fun {gg cs} hh hne hlt => by
    refine RefC0.Has.grown ((hC.has hh hne).alloc ob) hgrow (fun e => ?_)
    have := (hvb gg e).1
    omega
  have hRR : ∀ {ts : List GTok} {a e : Int}, RR w2 r ts a e → RR (w4.setCell ⟨X, 2, none⟩ (.slice (some ⟨g, 0, none⟩) (M.length + 1) cap)) r ts a e := fun {ts a e} h =>
    RR.far (RR.grown (RR.alloc h ob) hgrow (fun k hk => by have := (hvb k hk).1; omega)) (by show r < X; omega) _
  have hT4 := (fr hT (by omega) (by omega)).set 2 (.slice (some ⟨g, 0, none⟩) (M.length + 1) cap)
  have hsz4 : w2.heap.size + 1 ≤ w4.heap.size := by have := hgrow.size; rw [World.size_alloc] at this; exact this
  have hD4 : HDk w X nm hp hn hc h (w4.setCell ⟨X, 2, none⟩ (.slice (some ⟨g, 0, none⟩) (M.length + 1) cap)) := by
    refine hD.frame fun b o' h1 h2 => ?_
    refine (cell_set (by show b ≠ X; omega) _).trans ?_
    have hlt2 : b < w2.heap.size := by have := hC.size; omega
    refine (World.cell?_of_block (w := w2.alloc ob) (a := ⟨b, o', none⟩) (hgrow.block b (by rw [World.size_alloc]; omega) (fun e => by have := (hvb b e.symm).1; omega))).trans ?_
    exact ((below_alloc w2 ob).cell (p := ⟨b, o', none⟩) hlt2).trans (hC.cell (by omega) (by omega))
  refine ⟨?_, ?_, by rw [set_size]; have := hC.size; omega, ?_⟩
  · exact (((hC0.trans hC).alloc ob).grown hgrow (fun k hk => by have := (hvb k hk).1; omega)).put (Or.inr (by show w.heap.size ≤ X; omega)) _
  · exact (fr hZ (by omega) (by omega)).far (by show w.heap.size ≠ X; omega) _
  · rcases hF with ⟨x, ts, h1, h2, h3, h4, h5, h6, h7⟩ | ⟨a, er, ts, h1, h2, h3⟩
    · subst h2 h3 h4
      refine Or.inl ⟨x, ts, _, .slice p x.2.args.length c, h1, hD4, ?_, hT4, hRR h7⟩
      have ha := OwnG.add (K := KL) (x := (x, Value.slice p x.2.args.length c)) (hO.ch hC (by omega)) (lo := wr.heap.size) ⟨h5, h6⟩ (by omega) (fun k hk => (hvb k hk).2) hown hgrow hat
      exact ha.ch ((Ch.refl X w4).put (p := ⟨X, 2, none⟩) (Or.inl rfl) _) (by omega)
    · exact Or.inr ⟨a, er, _, _, _, ts, h1, h2, hT4, hRR h3⟩
/-- What holds at the head of the loop over literals. -/
def LU (r : Nat) (w : World) (X : Nat) (nm : ByteArray) (hp : Option Addr) (hn hc : Nat) (h : Tm) (O : Out Rl) (gk : Nat) (b : Bool) (wr : World) : Prop :=
  Ch r w wr ∧ Has wr w.heap.size Z3 ∧ X < wr.heap.size ∧
  ((b = true ∧ ∃ M v ts, HDk w X nm hp hn hc h wr ∧ M.length + gk = 9 ∧ M.length ≤ 8 ∧ O = (goL (M.map (·.1)) ts.tail).then (fin h) ∧ (hd ts).2.1 ≠ ⟨#[]⟩ ∧ OwnG KL (X + 1) wr M v ∧ Has wr X #[.string nm, .slice hp hn hc, v] ∧ RR wr r ts 0 0) ∨
   (b = false ∧ ∃ M v ts, HDk w X nm hp hn hc h wr ∧ O = fin h (M.map (·.1)) ts ∧ OwnG KL (X + 1) wr M v ∧ Has wr X #[.string nm, .slice hp hn hc, v] ∧ RR wr r ts 0 0) ∨
   (b = false ∧ ∃ p m c ts a er, O = .bad a er ∧ er ≠ 0 ∧ Has wr X #[.string nm, .slice hp hn hc, .slice p m c] ∧ RR wr r ts a er))
/-- What a method that reads a rule leaves. -/
def RlO (r : Nat) (w : World) (o : Out Rl) (e : Ending) (w' : World) : Prop :=
  (∃ x ts p c q d, o = .good x ts ∧ e = .returned (.agg #[.string x.1.nm, .slice p x.1.args.length c, .slice q x.2.length d]) ∧ KR.inn (fun b => w.heap.size ≤ b ∧ b < w'.heap.size) w' (x, .slice p x.1.args.length c, .slice q x.2.length d) ∧ RR w' r ts 0 0 ∧ Ch r w w') ∨
  (∃ a er nm p m c q n d ts, o = .bad a er ∧ e = .returned (.agg #[.string nm, .slice p m c, .slice q n d]) ∧ RR w' r ts a er ∧ er ≠ 0 ∧ Ch r w w')
end RefJ0
end Go.Proofs.YtfdpelokiljigaaDoor
