/- Stage 22: what the frame of TaskAsks wants. -/
import Derived.Test.YtmkepmjdckdpgaaTkLawU
import Derived.Test.YtmkepmjdckdpgaaBun14
namespace Go.Proofs.Ytmkepmjdckdpgaa
open Go.RowKit
theorem taskAsks_all (r q : Ru) (x y : Sp) (z1 z2 : Int) (w : World) (hr : AisAt w r.v r.ais) (hq : AisAt w q.v q.ais) (hx : IntsAt w x.v x.aft) (hy : IntsAt w y.v y.aft) (hi : x.In) (h1 : U64 z1) (h2 : U64 z2) :
    Calls Try.prog 4 #[ruv r, ruv q, spv x, spv y, .agg #[.int .u64 z1, .int .u64 z2]] w fun e w' => e = .returned (.bool true) ∧ Below w.heap.size w w' := by
  obtain ⟨s, hs, hs2⟩ := hi.sk.nat
  obtain ⟨g, hg, hg2⟩ := hi.ge.nat
  obtain ⟨a, rfl, ha⟩ := h1.nat
  obtain ⟨b, rfl, hb⟩ := h2.nat
  exact taskAsks_any r q x y s g a b w hr hq hx hy hs hg hs2 hg2 ha hb
end Go.Proofs.Ytmkepmjdckdpgaa
