/- The walks of the document's answers for layer 9: bits turned. -/
import Derived.Test.YtmmaodcihpgdfaaCrcRefB
namespace Go.Proofs.Ytmmaodcihpgdfaa
open Go.RowKit

theorem OwnB.some {w : World} {B : Nat} {v : Value} {l : List UInt8} (h : OwnB w B v l) (h0 : 0 < l.length) : ∃ g cap, v = .slice (some ⟨g, 0, none⟩) l.length cap ∧ B ≤ g ∧ l.length ≤ cap ∧ ∀ j, w.frozen? ⟨g, j, none⟩ = false := by
  rcases h.2 with ⟨rfl, he⟩ | ⟨g, cap, cur, rfl, hg, hh, hnc, hcp, hcs, htake⟩
  · omega
  · exact ⟨g, cap, rfl, hg, hnc, fun j => by simp [World.frozen?, hh]⟩

theorem flx_next2 (l : List Nat) (P n : Nat) (hP : P < 2 ^ n) (hn : n / 8 < l.length) : flx (P + 2 ^ n) l = (flx P l).set (n / 8) ((flx P l).getD (n / 8) 0 ^^^ 2 ^ (n % 8)) := by
  rw [flx_next l P n hP hn, List.getD_eq_getElem?_getD, List.getElem?_eq_getElem (by rw [flx_length]; exact hn)]
  rfl

end Go.Proofs.Ytmmaodcihpgdfaa
