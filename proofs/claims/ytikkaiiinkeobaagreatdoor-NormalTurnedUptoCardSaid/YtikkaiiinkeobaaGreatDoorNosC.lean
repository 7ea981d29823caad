/- arranged of the code: a body's literals ascending, each once, in place. Conditions: the body is a row of the caller's own; at most a thousand literals. -/
import Derived.Test.YtikkaiiinkeobaaGreatDoorNosB
import Derived.Test.YtikkaiiinkeobaaGreatDoorGAS
namespace Go.Proofs.YtikkaiiinkeobaaGreatDoor
open Go Go.RowKit
namespace NosC
open LexM TermM TermI Kit TermN TermU UniK UniM UnpP NorM NorA NorI NorR NosA NosP NosB LigY UnqA
/-- What arranged leaves. -/
def Arr (ok0 : Nat → Prop) (base hi : Nat) (L : List (Lt × Value)) (v : Value) (w : World) (e : Ending) (w' : World) : Prop :=
  ∃ (p : Option Addr) (c : Nat) (C : List (Lt × Value)), e = .returned (.slice p C.length c) ∧ C.map (·.1) = arrL (L.map (·.1)) ∧ RowG KL (fun b => ok0 b ∨ (base ≤ b ∧ b < hi)) w' C (.slice p C.length c) ∧ LigY.Lt (fun b => v.ownBlock = some b) w w'
theorem sort_nil (p : Option Addr) (c : Nat) (w : World) : Calls Tryz.prog 74 #[.slice p 0 c, .func (.func 29) #[] #[]] w fun e w' => e = .returned (.tuple #[]) ∧ w' = w :=
  AnyF.slices_SortFunc_none Tryz.sortL p c (.func (.func 29) #[] #[]) w
set_option maxRecDepth 100000 in
set_option maxHeartbeats 1600000 in
theorem compactf_nil (w : World) : Calls Tryz.prog 75 #[.slice none 0 0, .func (.func 76) #[] #[]] w fun e w' => e = .returned (.slice none 0 0) ∧ w' = w := by
  go_enter Tryz.func75, Tryz.ntmps75
  go_wp2_with fail
  go_ret
  exact ⟨rfl, rfl⟩
theorem srt_of {L : List (Lt × Value)} (h : ∀ (i j : Nat) (x y : Lt × Value), i < j → L[i]? = some x → L[j]? = some y → cmpLt x.1 y.1 ≤ 0) : SrtL L := h
set_option maxRecDepth 100000 in
set_option maxHeartbeats 1600000 in
theorem arranged_any (ok0 : Nat → Prop) (base : Nat) (w0 w : World) (L : List (Lt × Value)) (v : Value) (hO : OwnX KL ok0 base w0 L v) (hk : Below w0.heap.size w0 w) (hl : L.length ≤ 1000) :
    Calls Tryz.prog 38 #[v] w (Arr ok0 base w0.heap.size L v w) := by
  obtain ⟨h1, ok, h2, h3⟩ := hO
  have hlt := h1.lt
  replace h3 : ∀ x ∈ L, KL.inn ok w x := fun x hx => KL.keep (h3 x hx) fun b o hb => hk.cell (p := ⟨b, o, none⟩) (h2 b hb).2.1
  replace h1 := TermF.own_below h1 hk
  have h1' := h1
  have hz0 := hk.size
  unfold Arr
  rcases h1.2 with ⟨rfl, hz⟩ | ⟨g, cap, cur, rfl, e2, e3, e4, e5, e6, e7⟩
  · have K0 := Lib.hid (sort_nil none 0 w)
    have K1 := Lib.hid (compactf_nil w)
    obtain rfl : L = [] := List.eq_nil_of_length_eq_zero hz
    clear h1 h1' h2 h3 hlt hz hl
    go_enter Tryz.func38, Tryz.ntmps38
    go_wp2_with fail
    refine K0.out.mono ?_
    rintro e w2 ⟨rfl, rfl⟩
    go_wp2_with fail
    refine K1.out.mono ?_
    rintro e w3 ⟨rfl, rfl⟩
    go_wp2_with fail
    go_ret
    exact ⟨none, 0, [], rfl, by simp [arrL], RowG.nil _ _, Lt.of (Below.refl _ _)⟩
  · have hgl := (hlt g rfl).2
    have hok : ∀ b, ok b → b < w.heap.size ∧ b ≠ g := fun b hb => ⟨Nat.lt_of_lt_of_le (h2 b hb).2.1 hz0, fun e => (h2 b hb).2.2 (by rw [e]; rfl)⟩
    have K0 : Hid (Calls Tryz.prog 74 #[.slice (some ⟨g, 0, none⟩) L.length cap, .func (.func 29) #[] #[]] w (Srtd ok g L w)) := Lib.hid (by
      by_cases hne : L = []
      · subst hne
        refine (sort_nil (some ⟨g, 0, none⟩) cap w).mono ?_
        rintro e w2 ⟨rfl, rfl⟩
        exact ⟨[], rfl, List.Perm.refl _, fun i j x y _ h => by simp at h, fun j u h => by simp [Kd.flat] at h, fun x h => by simp at h, Ch.refl _ _⟩
      · exact sortl_any ok w base g cap L hok h3 h1' (by omega) hne)
    have OK := Lib.hid hok
    have OK2 : Hid (∀ b, ok b → ok0 b ∨ (base ≤ b ∧ b < w0.heap.size)) := Lib.hid (fun b hb => (h2 b hb).1.imp id fun h => ⟨h, (h2 b hb).2.1⟩)
    clear h1 h1' h2 h3 hlt hok e3 e6 e7
    go_enter Tryz.func38, Tryz.ntmps38
    go_wp2_with fail
    refine K0.out.mono ?_
    rintro e w2 ⟨L', rfl, hp, hs, hd, hin, hch⟩
    have HC := Lib.hid hch
    have K1 := Lib.hid (compactf_any ok w2 g cap L.length L' hp.length_eq (by omega) e4 hs (fun b hb => ⟨Nat.lt_of_lt_of_le (OK.out b hb).1 hch.size, (OK.out b hb).2⟩) hin hd)
    have PM : Hid (∀ y, y ∈ L'.map (·.1) ↔ y ∈ L.map (·.1)) := Lib.hid (fun y => (hp.map (·.1)).mem_iff)
    have PL := Lib.hid hp.length_eq
    clear hp hs hd hin hch K0
    go_wp2_with fail
    refine K1.out.mono ?_
    rintro e w3 ⟨C, rfl, hcm, hd, hin, hch, hle⟩
    have C3 := Lib.hid (HC.out.trans hch)
    have EQ : Hid (C.map (·.1) = arrL (L.map (·.1))) := Lib.hid (arr_eq hcm.1 fun y => by
      have := hcm.2 y
      rw [List.take_of_length_le (Nat.le_refl _)] at this
      exact this.trans (PM.out y))
    have hCl : C.length ≤ cap := by rw [PL.out] at hle; omega
    have RW : Hid (RowG KL (fun b => ok0 b ∨ (base ≤ b ∧ b < w0.heap.size)) w3 C (.slice (some ⟨g, 0, none⟩) C.length cap)) := Lib.hid (Hd.row hd (Or.inr ⟨e2, hgl⟩) (fun x hx => KL.wide (hin x hx) OK2.out) hCl e5)
    clear hcm hd hin hch hle hCl K1
    go_wp2_with fail
    go_ret
    exact ⟨_, cap, C, rfl, EQ.out, RW.out, Lt.grown (Lt.of (Below.refl _ _)) C3.out fun k hk => Or.inl (show some g = some k from hk)⟩
end NosC
end Go.Proofs.YtikkaiiinkeobaaGreatDoor
