/- Stage 22: what the frame of TaskWants wants. -/
import Derived.Test.YtmkepmjdckdpgaaTkLawW
import Derived.Test.YtmkepmjdckdpgaaBun14
namespace Go.Proofs.Ytmkepmjdckdpgaa
open Go.RowKit
theorem taskWants_all (r : Ru) (x : Sp) (a m u : Int) (w : World) (hr : AisAt w r.v r.ais) (hx : IntsAt w x.v x.aft) (hi : x.In) (h1 : U64 a) (h2 : U64 m) (h3 : U64 u) :
    Calls Try.prog 5 #[ruv r, spv x, .int .u64 a, .int .u64 m, .int .u64 u] w fun e w' => e = .returned (.bool true) ∧ Below w.heap.size w w' := by
  obtain ⟨s, hs, hs2⟩ := hi.sk.nat
  obtain ⟨g, hg, hg2⟩ := hi.ge.nat
  obtain ⟨a, rfl, ha⟩ := h1.nat
  obtain ⟨m, rfl, hm⟩ := h2.nat
  obtain ⟨u, rfl, hu⟩ := h3.nat
  exact taskWants_any r x s g a m u w hr hx hs hg hs2 hg2 ha hm hu hi.len
end Go.Proofs.Ytmkepmjdckdpgaa
