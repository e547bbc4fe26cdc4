/- A slice of bytes among the arguments, as the walks want it. -/
import Derived.Test.YtnbpdgkpamgcfaaDoorCur
import Derived.ProofKit
namespace Go.Proofs.YtnbpdgkpamgcfaaDoor
open Go.ChangeShapes Go.WideShapes Go.ChangeAt Go.RowKit

def byteOf (z : Int) : UInt8 := UInt8.ofNat z.toNat
theorem byteOf_wf {z : Int} (h : (Lit.int .u8 z).wf = true) : ((byteOf z).toNat : Int) = z := by
  have hb : 0 ≤ z ∧ z ≤ 255 := by simpa [Lit.wf, IntKind.min, IntKind.max, IntKind.signed, IntKind.bits] using h
  unfold byteOf
  have : (UInt8.ofNat z.toNat).toNat = z.toNat := by simp; omega
  rw [this]
  omega
theorem inBytes_of {W : World} {ad : Addr} {len cap : Nat} {zs : List Int} {ps : List MemPlace} (hlt : ∀ x ∈ ps, x.block < W.heap.size) (hl : len ≤ cap) (hm : cap ≤ maxLen) (hz : zs.length = cap) (hx2 : ps = MemPlace.row ad zs.length)
    (hcell : ∀ i, i < zs.length → W.cell? (ad.add i) = some (.int .u8 (zs.getD i 0))) (hwz : ∀ z ∈ zs, (Lit.int .u8 z).wf = true) : InBytes W (some ad) ((zs.take len).map byteOf) := by
  have hlen : ((zs.take len).map byteOf).length = len := by rw [List.length_map, List.length_take]; omega
  refine ⟨by rw [hlen]; unfold maxLen at hm; omega, fun h0 => ?_⟩
  rw [hlen] at h0
  obtain ⟨b, off, spot⟩ := ad
  have hspot : spot = none := by simpa [Addr.add] using World.cell?_spot (hcell 0 (by omega))
  subst hspot
  refine ⟨b, off, rfl, hlt (.cell b off) ?_, fun i hi => ?_⟩
  · rw [hx2]
    exact MemPlace.mem_row.2 ⟨0, by omega, by simp⟩
  · rw [hlen] at hi
    have hiz : i < zs.length := by omega
    have := hcell i hiz
    rw [add_plain] at this
    rw [this]
    have e1 : ((zs.take len).map byteOf)[i]? = some (byteOf zs[i]) := by
      rw [List.getElem?_map, List.getElem?_take, if_pos hi, List.getElem?_eq_getElem hiz]
      rfl
    have e2 : zs.getD i 0 = zs[i] := by simp [List.getD, hiz]
    rw [e1, Option.getD_some, byteOf_wf (hwz _ (List.getElem_mem hiz)), e2]
end Go.Proofs.YtnbpdgkpamgcfaaDoor
