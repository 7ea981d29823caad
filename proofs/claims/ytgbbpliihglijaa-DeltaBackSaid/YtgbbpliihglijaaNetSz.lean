/- A network of moderate size meets the conditions of Check's contract. -/
import Derived.Test.YtgbbpliihglijaaNetS
import Derived.Test.YtgbbpliihglijaaNetSl
namespace Go.Proofs.Ytgbbpliihglijaa
open Go Go.RowKit
namespace NetSz
open LexM TermM TermI TermS NetM NetN NetK NetS NetSl
theorem sz_le {t : Tm} (h : partsT 20 20 t ≤ 20) : sizeT t ≤ 1000000 := by
  have := (parts_size 20 20 t h).1
  omega
theorem sz_of {n : Nt} (h : SmN n) : SzN n :=
  ⟨fun t ht => sz_le (h.szb t ht), fun t ht => sz_le (h.szi t ht), fun t ht => sz_le (h.szs t ht), by have := h.next; omega, by have := h.legal; omega, by have := h.goals; omega, by have := h.sees; omega⟩
end NetSz
end Go.Proofs.Ytgbbpliihglijaa
