import Derived.Test.YthpmcilljbmoiaaGreatDoorZ38
import Derived.Test.YthpmcilljbmoiaaGreatDoorZMstr
namespace Go.Proofs.YthpmcilljbmoiaaGreatDoor
open Go.RowKit

section
variable {K : List Nat} {m : Nat} {w0 w w' : World} {ca cb da ka db kb : Nat} {A B : Pst → Prop} {S p : ByteArray}
theorem Two.start {w1 w2 : World} (b1 : Below w0.heap.size w0 w1) (a1 : Blk w1 ca 35 #[.pointer (some ⟨da, 0, none⟩), .int .i64 0, .int .i64 0]) (m1 : MemX K w1 (fun k => w0.heap.size ≤ k ∧ k < ca) da ka m 0 s00) (l1 : w0.heap.size ≤ ca)
    (b2 : Below w1.heap.size w1 w2) (a2 : Blk w2 cb 35 #[.pointer (some ⟨db, 0, none⟩), .int .i64 0, .int .i64 0]) (m2 : MemX K w2 (fun k => w1.heap.size ≤ k ∧ k < cb) db kb m 0 s00) (l2 : w1.heap.size ≤ cb) :
    Two K m w0 ca cb da ka db kb (fun s => s = s00) (fun s => s = s00) w2 := by
  have hc := a1.lt
  have hs := b1.size
  exact ⟨b1.trans (b2.mono hs), a1.below b2 hc, a2, _, _, 0, 0, s00, s00, rfl, rfl, by omega, by omega, m1.below b2, m2, fun k q e => by omega, fun k q => ⟨q.1, by omega, by omega⟩, fun k q => ⟨by omega, by omega, by omega⟩⟩
theorem Two.clients (h : Two K m w0 ca cb da ka db kb A B w) : w.cell? ⟨ca, 0, none⟩ = some (.pointer (some ⟨da, 0, none⟩)) ∧ w.cell? ⟨ca, 1, none⟩ = some (.int .i64 0) ∧ w.cell? ⟨cb, 0, none⟩ = some (.pointer (some ⟨db, 0, none⟩)) ∧ w.cell? ⟨cb, 1, none⟩ = some (.int .i64 0) := ⟨h.ha.cell 0, h.ha.cell 1, h.hb.cell 0, h.hb.cell 1⟩
theorem Two.drew (h : Two K m w0 ca cb da ka db kb A B w) : Two K m w0 ca cb da ka db kb A B (World.drew w) := h.below (Below.refl _ _).drew
theorem ex_app (S : ByteArray) (i k : Nat) (h : i ≤ k) : S.extract 0 i ++ S.extract i k = S.extract 0 k := by
  rw [ByteArray.extract_append_extract, show min 0 i = 0 by omega, show max i k = k by omega]
theorem ex_le (S : ByteArray) (i k : Nat) : (S.extract i k).size ≤ S.size := by rw [ByteArray.size_extract]; omega
/-- both at their end: the same -/
theorem Two.ended (h : Two K m w0 ca cb da ka db kb (Red K m S) (Red K m S) w) (hS : S.size ≤ 2900) : ∃ s, Red K m S s ∧ Two K m w0 ca cb da ka db kb (fun x => x = s) (fun x => x = s) w := by
  obtain ⟨sa, sb, ⟨i, h1, h2⟩, ⟨j, h3, h4⟩, hT⟩ := h.fix
  obtain rfl := h1.same h.m0 hS h3 h2 h4
  exact ⟨sa, ⟨i, h1, h2⟩, hT⟩
theorem frm_third (id : Nat) (body rest : ByteArray) (h : 2 < (frm 131 id body ++ rest).size) : (((frm 131 id body ++ rest)[2]).toNat : Int) = 131 := by
  have : (frm 131 id body ++ rest)[2] = UInt8.ofNat 131 := by
    show (frm 131 id body ++ rest).data[2] = _
    simp [frm, b8]
  rw [this]
  rfl
/-- what has gone out at the end -/
theorem Red.going {l : List ByteArray} {raw : ByteArray} {s : Pst} (hl : ∀ x ∈ l, x.size ≤ 120) (h1 : 1 ≤ l.length) (h2 : l.length ≤ 12) (hr : raw.size ≤ 500) (h : Red K m (strm K l raw) s) : 5 ≤ s.C.going.size ∧ s.C.going.size ≤ 200000 ∧ (∀ h : 2 < s.C.going.size, ((s.C.going[2]).toNat : Int) = 131) ∧ ∀ k, k < m → (s.D.shs k).length ≤ 1000 := by
  obtain ⟨i, hR, he⟩ := h
  obtain ⟨a, r, c1, c2⟩ := strm_first (K := K) (raw := raw) hl h1 h2
  obtain ⟨id, body, rest, e⟩ := hR.first c1 c2 he
  have ho := hR.okP (strm_size hl h2 hr)
  refine ⟨?_, ho.g, fun h => ?_, fun k hk => ho.d.len k hk⟩
  · rw [e, ByteArray.size_append, frm_size]; omega
  · generalize s.C.going = g at *
    subst e
    exact frm_third id body rest h
end
/-- a list of numbers as an argument -/
def Ivs (w : World) (a0 : Option Addr) (n : Nat) (cz : Nat → Int) : Prop := n = 0 ∨ ∃ b off, a0 = some ⟨b, off, none⟩ ∧ b < w.heap.size ∧ ∀ i, i < n → w.cell? ⟨b, off + i, none⟩ = some (.int .i64 (cz i))
def cutR (s : ByteArray) : ByteArray := if 500 < s.size then s.extract 0 500 else s
theorem cutR_size (s : ByteArray) : (cutR s).size ≤ 500 := by
  unfold cutR
  split
  · rw [ByteArray.size_extract]; omega
  · omega
theorem pickN_lt' (z : Int) (m : Nat) (h : 0 < m) : pickN z m < m := Nat.mod_lt _ h
end Go.Proofs.YthpmcilljbmoiaaGreatDoor
