/- clone.Term. Condition: at most a million parts. Made by gnCl.py. -/
import Derived.Test.YtkfeliogglnngaaGreatNetCl
namespace Go.Proofs.YtkfeliogglnngaaGreat
open Go Go.RowKit
namespace NetCt
open Kit LexM TermM TermI TermN TermU NetCl
theorem same_end {g : Nat} {w3 w' : World} {l : List Tm} {v : Value} {lo : Nat} (hs : SlIn (fun b => lo ≤ b ∧ b < w3.heap.size) w3 l v) (hg : g < lo) (hz : w'.heap.size = w3.heap.size) (hc : ∀ (b o : Nat), b ≠ g → w'.cell? ⟨b, o, none⟩ = w3.cell? ⟨b, o, none⟩) (B : Nat) (hB : B ≤ lo) : SlIn (fun b => B ≤ b ∧ b < w'.heap.size) w' l v := by
  refine (hs.frame fun b o (hb : lo ≤ b ∧ b < w3.heap.size) => hc b o (by omega)).weaken fun b hb => ⟨Nat.le_trans hB hb.1, by rw [hz]; exact hb.2⟩
set_option maxRecDepth 100000 in
set_option maxHeartbeats 6400000 in
theorem clone_any (t : Tm) : ClT t := by
  induction t using Tm.ind with
  | h n l ih =>
    intro B w sv hB h hz
    dsimp only [Tm.args, Tm.nm] at h ⊢
    have hls := len_size l
    simp only [sizeT] at hz
    have NX : ∀ t ∈ l, sizeT t ≤ 1000000 := fun t ht => by
      obtain ⟨k, hk⟩ := List.mem_iff_getElem?.1 ht
      have := size_get hk
      omega
    obtain ⟨W1, hW1⟩ : ∃ z, z = w.alloc (.cells #[.string n, sv] 70) := ⟨_, rfl⟩
    obtain ⟨W2, hW2⟩ : ∃ z, z = W1.alloc (.cells #[.string ⟨#[]⟩, .slice none 0 0] 70) := ⟨_, rfl⟩
    have K1 : Hid (Below w.heap.size w W1) := Lib.hid (by rw [hW1]; exact below_alloc _ _)
    have K2 : Hid (Below W1.heap.size W1 W2) := Lib.hid (by rw [hW2]; exact below_alloc _ _)
    have hz1 : W1.heap.size = w.heap.size + 1 := by rw [hW1]; simp
    have hz2 : W2.heap.size = w.heap.size + 2 := by rw [hW2]; simp [hz1]
    have BB : Hid (Below w.heap.size w W2) := Lib.hid (next0 K1.out K2.out)
    have H1 : Hid (Has W2 w.heap.size #[.string n, sv]) := Lib.hid (by rw [hW2, hW1]; exact (Has.new _ _ _).alloc _)
    have H2 : Hid (Has W2 (w.heap.size + 1) #[.string ⟨#[]⟩, .slice none 0 0]) := Lib.hid (by rw [hW2, ← hz1]; exact Has.new _ _ _)
    have KT := Lib.hid (fun w' (q : Below W2.heap.size W2 w') => terms_of l ih (by omega) NX B w' sv (Nat.le_trans hB (Nat.le_trans BB.out.size q.size)) (h.frame fun b o (hb : b < B) => ((next0 BB.out q).cell (p := ⟨b, o, none⟩) (Nat.lt_of_lt_of_le hb hB))))
    obtain ⟨p, c, rfl⟩ := h.form
    unfold CloL at KT
    unfold CloT
    have HW2 := Lib.hid hz2
    have HZ1 := Lib.hid hz1
    clear h hz hls NX ih K1 K2 hz1
    generalize l.length = m at *
    have x1 := H1.out.cell 0
    have x2 := H1.out.cell 1
    go_enter Tryz.func44, Tryz.ntmps44
    go_upto_region 1 with fail
    have e1 := HZ1.out
    rw [← hW1, ← hW2]
    clear hW1 hW2
    go_region_with (first | (go_at_call 62; (try go_split_ands); (with_reducible refine (KT.out _ (by repeat (first | (with_reducible exact Hid.out (by assumption)) | (with_reducible exact Below.refl _ _) | (with_reducible refine Below.drew ?_)))).mono ?_); rintro e w3 ⟨q1, c1, rfl, s3, g3⟩; have S3 := Lib.hid s3; have D3 : Hid (Below W2.heap.size W2 w3) := Lib.hid (by (refine next0 ?_ g3; repeat (first | (with_reducible exact Hid.out (by assumption)) | (with_reducible exact Below.refl _ _) | (with_reducible refine Below.drew ?_)))); have SZ3 : Hid (W2.heap.size ≤ w3.heap.size) := Lib.hid D3.out.size; have x1' := (H1.out.step0 D3.out).cell 0; have z1 := (H2.out.step0 D3.out).cell 0; have z2 := (H2.out.step0 D3.out).cell 1; have z3 := (H2.out.step0 D3.out).free 0; have z4 := (H2.out.step0 D3.out).free 1; clear s3 g3))
    all_goals
      go_wp2_with fail
      have H3x := H2.out.step0 D3.out
      have hw2 := HW2.out
      have hs3 := SZ3.out
      have r0 : ((w3.setCell ⟨w.heap.size + 1, 0, none⟩ (.string n)).setCell ⟨w.heap.size + 1, 1, none⟩ (.slice q1 m c1)).cell? ⟨w.heap.size + 1, 0, none⟩ = some (.string n) := ((H3x.set 0 (.string n)).set 1 (.slice q1 m c1)).cell 0
      have r1 : ((w3.setCell ⟨w.heap.size + 1, 0, none⟩ (.string n)).setCell ⟨w.heap.size + 1, 1, none⟩ (.slice q1 m c1)).cell? ⟨w.heap.size + 1, 1, none⟩ = some (.slice q1 m c1) := ((H3x.set 0 (.string n)).set 1 (.slice q1 m c1)).cell 1
      refine bodyPost_ret (v := .agg #[.string n, .slice q1 m c1]) (by simp [results, Tryz.results44, go_sem, z1, z2]) rfl ?_
      clear r0 r1
      refine ⟨q1, c1, rfl, same_end S3.out (g := w.heap.size + 1) (by first | omega | (simp; omega)) (by simp [World.setCell]) (fun b o hb => ?_) _ (by first | omega | (simp; omega)), (((next0 BB.out D3.out).setCell (p := ⟨w.heap.size + 1, 0, none⟩) (by simp) _).setCell (p := ⟨w.heap.size + 1, 1, none⟩) (by simp) _)⟩
      exact (World.cell?_setCell_other _ _ _ _ (by intro e; injection e with e1 e2; omega)).trans (World.cell?_setCell_other _ _ _ _ (by intro e; injection e with e1 e2; omega))
theorem clone_terms (l : List Tm) (hlm : l.length ≤ 1000000) (hsz : ∀ t ∈ l, sizeT t ≤ 1000000) (B : Nat) (w : World) (v : Value) (hB : B ≤ w.heap.size) (h : SlIn (· < B) w l v) : Calls Tryz.prog 62 #[v] w (CloL l w) := terms_of l (fun t _ => clone_any t) hlm hsz B w v hB h
end NetCt
end Go.Proofs.YtkfeliogglnngaaGreat
