/- gameplayerplain's Atom, and Atoms of one atom. Condition: a trusted text of at most a million bytes. Made by gnAt.py. -/
import Derived.Test.YtgbbpliihglijaaGreatRdD
import Derived.Deep.AppendLies
import Derived.Maps.AppendAt
import Derived.Laws.AppendOwnNone
import Derived.WalkSpells
import Derived.OwnWalk
namespace Go.Proofs.YtgbbpliihglijaaGreat
open Go Go.RowKit
namespace NetAt
open Kit LexM TermM TermI TermN TermU UniK UniD RdM RdN RdA RdB RdC RdD
/-- A new list of terms. -/
def TsQ (l : List Tm) (w : World) (e : Ending) (w' : World) : Prop := ∃ v, e = .returned v ∧ SlIn (fun b => w.heap.size ≤ b ∧ b < w'.heap.size) w' l v ∧ Below w.heap.size w w'
theorem TsQ.mk {l : List Tm} {w w' : World} {v : Value} (h : SlIn (fun b => w.heap.size ≤ b ∧ b < w'.heap.size) w' l v) (h2 : Below w.heap.size w w') : TsQ l w (.returned v) w' := ⟨v, rfl, h, h2⟩
/-- A new term. -/
def TrQ (t : Tm) (w : World) (e : Ending) (w' : World) : Prop := ∃ q d, e = .returned (.agg #[.string t.nm, .slice q t.args.length d]) ∧ SlIn (fun b => w.heap.size ≤ b ∧ b < w'.heap.size) w' t.args (.slice q t.args.length d) ∧ t.nm.size ≤ maxLen ∧ Below w.heap.size w w'
set_option maxRecDepth 100000 in
set_option maxHeartbeats 6400000 in
theorem atom_any (s : ByteArray) (hs0 : s.size ≤ 1000000) (hok : ∀ c ∈ s.data.toList, okB c = true) (w : World) :
    Calls Tryz.prog 34 #[.string s] w (TrQ (atom s.data.toList) w) := by
  obtain ⟨W0, hW0⟩ : ∃ z, z = w.alloc (.cells #[.string ⟨#[]⟩, .slice none 0 0] 58) := ⟨_, rfl⟩
  have hz0 : W0.heap.size = w.heap.size + 1 := by rw [hW0]; simp
  have B0 : Hid (Below w.heap.size w W0) := Lib.hid (by rw [hW0]; exact below_alloc _ _)
  have R0 : Hid (Has W0 w.heap.size #[.string ⟨#[]⟩, .slice none 0 0]) := Lib.hid (by rw [hW0]; exact Has.new _ _ _)
  obtain ⟨W1, hW1⟩ : ∃ W1, W1 = W0.alloc (.cells #[.string s, .int .i64 0] 86) := ⟨_, rfl⟩
  have hz1 : W1.heap.size = w.heap.size + 2 := by rw [hW1]; simp [hz0]
  have B1 : Hid (Below w.heap.size w W1) := Lib.hid (by rw [hW1]; exact next0 B0.out (below_alloc _ _))
  have D1 : Rd W1 (w.heap.size + 1) s s.data.toList := by rw [hW1, ← hz0]; exact ⟨hs0, 0, by simp, rfl, Has.new _ _ _⟩
  have R1 : Hid (Has W1 w.heap.size #[.string ⟨#[]⟩, .slice none 0 0]) := Lib.hid (by rw [hW1]; exact R0.out.alloc _)
  have HL := Lib.hid (Rd.len D1)
  have WD : Hid (Calls Tryz.prog 41 #[.pointer (some ⟨w.heap.size + 1, 0, none⟩)] W1 (WdQ (w.heap.size + 1) s (wordL s.data.toList) W1)) := Lib.hid (word_any s s.data.toList W1 (w.heap.size + 1) hok D1)
  have IT := Lib.hid (fun n' l' w' (hn' : n'.length ≤ 1000000) (k : Rd w' (w.heap.size + 1) s l') => term_mem s hok (w.heap.size + 1) l'.length n' l' w' rfl hn' k)
  have HA : Hid (atom s.data.toList = (term (wordL s.data.toList).1 (wordL s.data.toList).2).1) := Lib.hid rfl
  have HW := Lib.hid (word_len s.data.toList)
  unfold WdQ at WD
  unfold TmQ at IT
  clear D1 hok R0
  have HZ0 := Lib.hid hz0
  have HZ1 := Lib.hid hz1
  clear hz0 hz1
  go_enter Tryz.func34, Tryz.ntmps34
  go_upto_region 1 with fail
  rw [← hW0]
  clear hW0
  have e0 := HZ0.out
  go_upto_region 2 with fail
  rw [← hW1]
  clear hW1 e0
  go_wp2_with fail
  refine WD.out.mono ?_
  rintro e w5 ⟨rfl, hR5, hC5⟩
  have C5 := Lib.hid hC5
  have R5 := Lib.hid (hC5.has R1.out (by omega))
  have T5 := Lib.hid (IT.out (wordL s.data.toList).1 (wordL s.data.toList).2 w5 (by have := HW.out; have := HL.out; omega) hR5)
  clear hR5 hC5 WD IT
  generalize (wordL s.data.toList).1 = W at *
  generalize hO2 : term W (wordL s.data.toList).2 = o2 at *
  clear hO2
  generalize hu : o2.1 = u at *
  clear hu
  go_wp2_with fail
  refine T5.out.mono ?_
  rintro e w6 ⟨q1, c1', rfl, s6, nu, rd6, ch6⟩
  have R6 := Lib.hid (ch6.has R5.out (by omega))
  have C6 := Lib.hid (C5.out.trans ch6)
  have S6 := Lib.hid s6
  have NU := Lib.hid nu
  have hs6 := Lib.hid C5.out.size
  clear s6 nu rd6 ch6 T5
  obtain ⟨y1, y2, y3, y4, y5⟩ := R6.out.two
  have r1 := R6.out.put0 (.string u.nm) (.slice q1 u.args.length c1')
  have r2 := R6.out.put1 (.string u.nm) (.slice q1 u.args.length c1')
  have DF : Hid (Below w.heap.size w ((w6.setCell ⟨w.heap.size, 0, none⟩ (.string u.nm)).setCell ⟨w.heap.size, 1, none⟩ (.slice q1 u.args.length c1'))) := Lib.hid (((B1.out.trans (C6.out.toBelow (by omega) (by have := HZ1.out; omega))).setCell (p := ⟨w.heap.size, 0, none⟩) (Nat.le_refl _) _).setCell (p := ⟨w.heap.size, 1, none⟩) (Nat.le_refl _) _)
  have SF : Hid (SlIn (fun b => w.heap.size ≤ b ∧ b < ((w6.setCell ⟨w.heap.size, 0, none⟩ (.string u.nm)).setCell ⟨w.heap.size, 1, none⟩ (.slice q1 u.args.length c1')).heap.size) ((w6.setCell ⟨w.heap.size, 0, none⟩ (.string u.nm)).setCell ⟨w.heap.size, 1, none⟩ (.slice q1 u.args.length c1')) u.args (.slice q1 u.args.length c1')) := Lib.hid (by
    have h1 := HZ1.out
    have h2 := hs6.out
    refine (S6.out.frame fun b o hb => ?_).weaken fun b hb => ⟨by omega, by simpa [World.setCell] using hb.2⟩
    rw [cell_far (by show b ≠ w.heap.size; omega), cell_far (by show b ≠ w.heap.size; omega)])
  have HT : Hid (atom s.data.toList = u) := HA
  go_wp2_with fail
  refine bodyPost_ret (v := .agg #[.string u.nm, .slice q1 u.args.length c1']) (by simp [results, Tryz.results34, go_sem, r1, r2]) rfl ?_
  rw [HT.out]
  exact ⟨q1, c1', rfl, SF.out, NU.out, DF.out⟩
set_option maxRecDepth 100000 in
set_option maxHeartbeats 6400000 in
theorem atoms_one (s : ByteArray) (hs0 : s.size ≤ 1000000) (h0 : 0 < s.size) (hok : ∀ c ∈ s.data.toList, okB c = true) (h44 : (signL 44 (term (wordL s.data.toList).1 (wordL s.data.toList).2).2).1 = false) (w : World) :
    Calls Tryz.prog 33 #[.string s] w (TsQ [atom s.data.toList] w) := by
  obtain ⟨i0, hi, hz0, hz1, hz2⟩ := info_parts Tryz.info28
  obtain ⟨W1, hW1⟩ : ∃ W1, W1 = w.alloc (.cells #[.string s, .int .i64 0] 86) := ⟨_, rfl⟩
  have hzw : W1.heap.size = w.heap.size + 1 := by rw [hW1]; simp
  have B1 : Hid (Below w.heap.size w W1) := Lib.hid (by rw [hW1]; exact below_alloc _ _)
  have H1 : Hid (Has W1 w.heap.size #[.string s, .int .i64 0]) := Lib.hid (by rw [hW1]; exact Has.new _ _ _)
  have D1 : Hid (Rd W1 w.heap.size s s.data.toList) := Lib.hid ⟨hs0, 0, by simp, rfl, H1.out⟩
  have HL := Lib.hid (Rd.len D1.out)
  have WD := Lib.hid (fun m w' (k : Rd w' w.heap.size s m) => word_any s m w' w.heap.size hok k)
  have IT := Lib.hid (fun n' l' w' (hn' : n'.length ≤ 1000000) (k : Rd w' w.heap.size s l') => term_mem s hok w.heap.size l'.length n' l' w' rfl hn' k)
  have S44 := Lib.hid (fun m w' (k : Rd w' w.heap.size s m) => show Calls Tryz.prog 42 #[.pointer (some ⟨w.heap.size, 0, none⟩), .int .u8 44] w' (SgQ w.heap.size s (signL 44 m) w') from sign_any s m 44 w' w.heap.size k)
  have HA : Hid (atom s.data.toList = (term (wordL s.data.toList).1 (wordL s.data.toList).2).1) := Lib.hid rfl
  have HW := Lib.hid (word_len s.data.toList)
  have H44 := Lib.hid h44
  have O1 : Hid (Own (w.heap.size + 1) W1 [] (.slice none 0 0)) := Lib.hid (Own.nil _ _)
  unfold WdQ at WD
  unfold TmQ at IT
  unfold SgQ at S44
  clear hok h44
  have HZW := Lib.hid hzw
  clear hzw
  go_enter Tryz.func33, Tryz.ntmps33
  go_upto_region 1 with fail
  go_wp2_with fail
  rw [← hW1]
  clear hW1
  go_loopw [4] (fun v wr => v = .slice none 0 0 ∧ W1 = wr) (fun _ _ => 0)
  case atStart => exact ⟨rfl, rfl⟩
  case round =>
    obtain ⟨rfl, rfl⟩ := hrel
    obtain ⟨f1, f2, f3, f4, f5⟩ := H1.out.two
    have c1 : decide (0 < s.size) = true := by simpa using h0
    have c2 : (0 : Int) < (s.size : Int) := by omega
    go_wp2_with fail
    go_quiet (fail)
    have W5 := Lib.hid (WD.out s.data.toList (W1.drewN nq) (D1.out.below (below_drewN (Below.refl _ _) nq)))
    have OX := Lib.hid (O1.out.below (below_drewN (Below.refl _ _) nq))
    clear f1 f2 f3 f4 f5 c1 c2 WD
    go_wp2_with fail
    refine W5.out.mono ?_
    rintro e w5 ⟨rfl, hR5, hC5⟩
    have C5 : Hid (Ch w.heap.size W1 w5) := Lib.hid ((Ch.of (below_drewN (Below.refl _ _) nq)).trans hC5)
    have O5 := Lib.hid (own_ch OX.out hC5 (by omega))
    have T5 := Lib.hid (IT.out (wordL s.data.toList).1 (wordL s.data.toList).2 w5 (by have := HW.out; have := HL.out; omega) hR5)
    clear hR5 hC5 W5 IT OX
    generalize (wordL s.data.toList).1 = W at *
    generalize hO2 : term W (wordL s.data.toList).2 = o2 at *
    clear hO2
    generalize hu : o2.1 = u at *
    clear hu
    generalize hl2 : o2.2 = l2 at *
    clear hl2
    go_wp2_with fail
    refine T5.out.mono ?_
    rintro e w6 ⟨q1, c1', rfl, s6, nu, rd6, ch6⟩
    have D6 := Lib.hid rd6
    have C6 := Lib.hid (C5.out.trans ch6)
    have S6 := Lib.hid s6
    have NU := Lib.hid nu
    have O6 := Lib.hid (own_ch O5.out ch6 (by omega))
    have hbs : w.heap.size + 1 ≤ w5.heap.size := by have h1 := HZW.out; have h2 := C5.out.size; omega
    have hbs6 : w5.heap.size ≤ w6.heap.size := ch6.size
    have A1 : 0 + 1 ≤ maxLen := by unfold maxLen; omega
    have A2 : (0 + 1) * 40 ≤ 140737488355328 := by omega
    have A3 : w.heap.size + 1 ≤ (w6.alloc (.cells #[.string u.nm, .slice q1 u.args.length c1'] 58)).heap.size := by simp; omega
    have HBS := Lib.hid hbs
    clear s6 nu rd6 ch6 T5 O5 hbs hbs6
    go_wp2_with (at_builtin; go_must (refine wpList_append_lies _ rfl _ _ 23 rfl (w.heap.size + 1) 58 i0 (.agg #[.string ⟨#[]⟩, .slice none 0 0]) 2 40 Tryz.underlying23 hi hz0 hz1 hz2 rfl (by decide) (.slice none 0 0) 0 (flatL []) rfl (O6.out.1.alloc _) ⟨w6.heap.size, 0, none⟩ 1 1 [.string u.nm, .slice q1 u.args.length c1'] rfl rfl (news2 _ _ _ _) (one2 _ _ _ _) (by decide) A1 A2 A3 (w6.heap.size + 1) (by simp) ?_; intro g cap w7 hown hgrow hat hlt7; have O7 := Lib.hid (O6.out.add S6.out NU.out HBS.out (fun k hk => by cases hk) hown hgrow hat); have C7 := Lib.hid ((C6.out.alloc (.cells #[.string u.nm, .slice q1 u.args.length c1'] 58)).grown hgrow (fun k hk => by cases hk)); have D7 := Lib.hid (rd_grown D6.out (.cells #[.string u.nm, .slice q1 u.args.length c1'] 58) hgrow (fun e => by cases e)); clear hown hgrow hat))
    have S9 := Lib.hid (S44.out l2 _ D7.out)
    rw [H44.out] at S9
    refine S9.out.mono ?_
    rintro e w9 ⟨rfl, hR9, hC9⟩
    have O9 := Lib.hid (own_ch O7.out hC9 (by omega))
    have C9 := Lib.hid (C7.out.trans hC9)
    clear hR9 hC9 S9
    have DF : Hid (Below w.heap.size w w9) := Lib.hid (B1.out.trans (C9.out.toBelow (Nat.le_refl _) (by have := HZW.out; omega)))
    have SF : Hid (SlIn (fun b => w.heap.size ≤ b ∧ b < w9.heap.size) w9 [u] (.slice (some ⟨g, 0, none⟩) (0 + 1) cap)) := Lib.hid ((own_new O9.out).weaken fun b hb => ⟨by omega, hb.2⟩)
    have HT : Hid (atom s.data.toList = u) := HA
    go_wp2_with fail
    go_ret
    exact TsQ.mk (by rw [HT.out]; exact SF.out) DF.out
end NetAt
end Go.Proofs.YtgbbpliihglijaaGreat
