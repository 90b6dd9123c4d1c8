import Derived.Test.YthpmcilljbmoiaaGreatDoorZ09
namespace Go.Proofs.YthpmcilljbmoiaaGreatDoor
open Go.RowKit

theorem conv1 (w : World) (H k : Nat) (hk : k < 256) (h : w.cell? ⟨H, 0, none⟩ = some (.int .u8 (k : Int))) : (convert 126 9 (.slice (some ⟨H, 0, none⟩) 1 1)).run Tryz.prog w = .ok (.string (b8 k)) w := by
  have := run_convert_bytes_back (P := Tryz.prog) w 126 9 5 ⟨H, 0, none⟩ 1 [UInt8.ofNat k] Tryz.underlying126 Tryz.underlying5 Tryz.underlying9 (fun j hj => by
    have : j = 0 := by simpa using hj
    subst this
    rw [Addr.add_lit, Nat.zero_add, h]
    simp [UInt8.toNat_ofNat_of_lt' hk])
  exact this

theorem region_any2 {P : Program} {ops : Array Oper} {Q : Exit → Act → World → Prop} {id : Nat} {a : Act} {w : World} (hm : P.follows .mixedOrders = true)
    (h : ∀ OPS QQ, OPS = ops → QQ = Q → wpAny P .any OPS QQ ops.size (Array.replicate ops.size false) a (World.drew w)) : (Code.region id ops true).wp P Q a w := wp_region_any hm (h _ _ rfl rfl)

set_option maxRecDepth 100000 in
set_option maxHeartbeats 8000000 in
theorem kframe_any (kind id : Nat) (body : ByteArray) (w : World) (hk : kind < 256) (hi : id < 65536) (hs : body.size ≤ 2500) :
    Calls Tryz.prog 26 #[.int .i64 kind, .int .i64 id, .string body] w
      fun r w' => r = .returned (.string (frm kind id body)) ∧ Below w.heap.size w w' := by
  have HB : Hid (∀ (v : Nat) (z : Int) w0, v < 65536 → z = (v : Int) → Calls Tryz.prog 28 #[.int .i64 z, .int .i64 2] w0
      fun r w' => r = .returned (.string (b8 (v / 256) ++ b8 (v % 256))) ∧ Below w0.heap.size w0 w' ∧ ∀ H, H < w0.heap.size → w0.cell? ⟨H, 0, none⟩ = some (.int .u8 (kind : Int)) → w'.cell? ⟨H, 0, none⟩ = some (.int .u8 (kind : Int))) := fun v z w0 hv hz => by
    subst hz
    refine (bytes2 v w0 hv).mono ?_
    rintro e w' ⟨h1, h2⟩
    exact ⟨h1, h2, fun H hH hc => by rw [h2.cell hH]; exact hc⟩
  go_enter Tryz.func26, Tryz.ntmps26
  go_wp2
  refine region_any2 (by kernel_rfl) (fun OPS QQ hO hQ => ?_)
  have F : ∀ wx H, Below w.heap.size w wx → wpAny Tryz.prog .any OPS QQ 3 #[true, true, true, true, true, true, true, true, true, true, true, false, true, false, false] { tmps := #[.int .i64 kind, .int .i64 id, .string body, undef, undef, undef, .string ⟨#[]⟩, .string body, .int .i64 body.size, .int .i64 (3 + (body.size : Int)), .string (b8 ((3 + body.size) / 256) ++ b8 ((3 + body.size) % 256)), .int .i64 kind, .int .u8 kind, .slice (some ⟨H, 0, none⟩) 1 1, .string (b8 kind), .string ((b8 ((3 + body.size) / 256) ++ b8 ((3 + body.size) % 256)) ++ b8 kind), .int .i64 id, .string (b8 (id / 256) ++ b8 (id % 256)), undef, .string body, undef], defers := [] } wx := by
    intro wx H hb
    subst hO
    refine wpAny_take (i := 11) (v := .string ((b8 ((3 + body.size) / 256) ++ b8 ((3 + body.size) % 256)) ++ b8 kind ++ (b8 (id / 256) ++ b8 (id % 256)))) rfl (by kernel_rfl) (by kernel_rfl) (by kernel_rfl) (fun c a w h => by subst hQ; exact h) (Or.inl ⟨by rfl, fun w => by first | (go_simp; done) | (go_simp; simp only [b8_size]; omega) | (go_simp; rw [IntKind.wrap_i64]; omega) | (go_simp; rw [IntKind.wrap_u8]; omega)⟩) ?_
    refine wpAny_take (i := 13) (v := .string ((b8 ((3 + body.size) / 256) ++ b8 ((3 + body.size) % 256)) ++ b8 kind ++ (b8 (id / 256) ++ b8 (id % 256)) ++ body)) rfl (by kernel_rfl) (by kernel_rfl) (by kernel_rfl) (fun c a w h => by subst hQ; exact h) (Or.inl ⟨by rfl, fun w => by first | (go_simp; done) | (go_simp; simp only [b8_size]; omega) | (go_simp; rw [IntKind.wrap_i64]; omega) | (go_simp; rw [IntKind.wrap_u8]; omega)⟩) ?_
    refine wpAny_take (i := 14) (v := .string ((b8 ((3 + body.size) / 256) ++ b8 ((3 + body.size) % 256)) ++ b8 kind ++ (b8 (id / 256) ++ b8 (id % 256)) ++ body)) rfl (by kernel_rfl) (by kernel_rfl) (by kernel_rfl) (fun c a w h => by subst hQ; exact h) (Or.inl ⟨by rfl, fun w => by first | (go_simp; done) | (go_simp; simp only [b8_size]; omega) | (go_simp; rw [IntKind.wrap_i64]; omega) | (go_simp; rw [IntKind.wrap_u8]; omega)⟩) ?_
    refine wpAny_done (by kernel_rfl) ?_ _
    subst hQ
    go_wp2
    go_ret
    refine ⟨?_, hb⟩
    refine congrArg (fun x => Ending.returned (Value.string x)) ?_
    simp only [frm, ByteArray.append_assoc]
  have S112 : ∀ wx H, Below w.heap.size w wx → wpAny Tryz.prog .any OPS QQ 4 #[true, true, true, true, true, true, true, true, false, true, true, false, true, false, false] { tmps := #[.int .i64 kind, .int .i64 id, .string body, undef, undef, undef, .string ⟨#[]⟩, .string body, .int .i64 body.size, .int .i64 (3 + (body.size : Int)), .string (b8 ((3 + body.size) / 256) ++ b8 ((3 + body.size) % 256)), .int .i64 kind, .int .u8 kind, .slice (some ⟨H, 0, none⟩) 1 1, .string (b8 kind), undef, .int .i64 id, .string (b8 (id / 256) ++ b8 (id % 256)), undef, .string body, undef], defers := [] } wx := by
    intro wx H hb
    subst hO
    refine wpAny_take (i := 8) (v := .string ((b8 ((3 + body.size) / 256) ++ b8 ((3 + body.size) % 256)) ++ b8 kind)) rfl (by kernel_rfl) (by kernel_rfl) (by kernel_rfl) (fun c a w h => by subst hQ; exact h) (Or.inl ⟨by rfl, fun w => by first | (go_simp; done) | (go_simp; simp only [b8_size]; omega) | (go_simp; rw [IntKind.wrap_i64]; omega) | (go_simp; rw [IntKind.wrap_u8]; omega)⟩) ?_
    exact F wx H hb
  have S102 : ∀ wx H, Below w.heap.size w wx → wpAny Tryz.prog .any OPS QQ 5 #[true, true, true, true, true, true, true, true, false, true, false, false, true, false, false] { tmps := #[.int .i64 kind, .int .i64 id, .string body, undef, undef, undef, .string ⟨#[]⟩, .string body, .int .i64 body.size, .int .i64 (3 + (body.size : Int)), .string (b8 ((3 + body.size) / 256) ++ b8 ((3 + body.size) % 256)), .int .i64 kind, .int .u8 kind, .slice (some ⟨H, 0, none⟩) 1 1, .string (b8 kind), undef, .int .i64 id, undef, undef, .string body, undef], defers := [] } wx := by
    intro wx H hb
    subst hO
    refine wpAny_take (i := 8) (v := .string ((b8 ((3 + body.size) / 256) ++ b8 ((3 + body.size) % 256)) ++ b8 kind)) rfl (by kernel_rfl) (by kernel_rfl) (by kernel_rfl) (fun c a w h => by subst hQ; exact h) (Or.inl ⟨by rfl, fun w => by first | (go_simp; done) | (go_simp; simp only [b8_size]; omega) | (go_simp; rw [IntKind.wrap_i64]; omega) | (go_simp; rw [IntKind.wrap_u8]; omega)⟩) ?_
    refine wpAny_ready (rs := [10]) (by kernel_rfl) (by simp) (AllReady.cons rfl (fun K hK => ?_) AllReady.nil)
    · go_simp
      refine (HB.out id _ _ hi rfl).mono ?_
      rintro e w1 ⟨rfl, k1, c1⟩
      refine hK _ _ ?_
      exact F w1 H (hb.trans (k1.mono hb.size))
  have S002 : ∀ wx H, Below w.heap.size w wx → wpAny Tryz.prog .any OPS QQ 6 #[true, true, true, false, true, true, true, true, false, true, false, false, true, false, false] { tmps := #[.int .i64 kind, .int .i64 id, .string body, undef, undef, undef, .string ⟨#[]⟩, .string body, .int .i64 body.size, .int .i64 (3 + (body.size : Int)), undef, .int .i64 kind, .int .u8 kind, .slice (some ⟨H, 0, none⟩) 1 1, .string (b8 kind), undef, .int .i64 id, undef, undef, .string body, undef], defers := [] } wx := by
    intro wx H hb
    subst hO
    refine wpAny_ready (rs := [3]) (by kernel_rfl) (by simp) (AllReady.cons rfl (fun K hK => ?_) AllReady.nil)
    · go_simp
      refine (HB.out (3 + body.size) _ _ (by omega) (by omega)).mono ?_
      rintro e w1 ⟨rfl, k1, c1⟩
      refine hK _ _ ?_
      exact S102 w1 H (hb.trans (k1.mono hb.size))
  have S111 : ∀ wx H, Below w.heap.size w wx → H < wx.heap.size → wx.cell? ⟨H, 0, none⟩ = some (.int .u8 (kind : Int)) → wpAny Tryz.prog .any OPS QQ 5 #[true, true, true, true, true, true, true, false, false, true, true, false, true, false, false] { tmps := #[.int .i64 kind, .int .i64 id, .string body, undef, undef, undef, .string ⟨#[]⟩, .string body, .int .i64 body.size, .int .i64 (3 + (body.size : Int)), .string (b8 ((3 + body.size) / 256) ++ b8 ((3 + body.size) % 256)), .int .i64 kind, .int .u8 kind, .slice (some ⟨H, 0, none⟩) 1 1, undef, undef, .int .i64 id, .string (b8 (id / 256) ++ b8 (id % 256)), undef, .string body, undef], defers := [] } wx := by
    intro wx H hb hH hc
    subst hO
    refine wpAny_ready (rs := [7]) (by kernel_rfl) (by simp) (AllReady.cons rfl (fun K hK => ?_) AllReady.nil)
    · have hcv := conv1 wx H kind hk hc
      go_simp
      refine hK _ _ ?_
      exact S112 wx H hb
  have S101 : ∀ wx H, Below w.heap.size w wx → H < wx.heap.size → wx.cell? ⟨H, 0, none⟩ = some (.int .u8 (kind : Int)) → wpAny Tryz.prog .any OPS QQ 6 #[true, true, true, true, true, true, true, false, false, true, false, false, true, false, false] { tmps := #[.int .i64 kind, .int .i64 id, .string body, undef, undef, undef, .string ⟨#[]⟩, .string body, .int .i64 body.size, .int .i64 (3 + (body.size : Int)), .string (b8 ((3 + body.size) / 256) ++ b8 ((3 + body.size) % 256)), .int .i64 kind, .int .u8 kind, .slice (some ⟨H, 0, none⟩) 1 1, undef, undef, .int .i64 id, undef, undef, .string body, undef], defers := [] } wx := by
    intro wx H hb hH hc
    subst hO
    refine wpAny_ready (rs := [7, 10]) (by kernel_rfl) (by simp) (AllReady.cons rfl (fun K hK => ?_) (AllReady.cons rfl (fun K hK => ?_) AllReady.nil))
    · have hcv := conv1 wx H kind hk hc
      go_simp
      refine hK _ _ ?_
      exact S102 wx H hb
    · go_simp
      refine (HB.out id _ _ hi rfl).mono ?_
      rintro e w1 ⟨rfl, k1, c1⟩
      refine hK _ _ ?_
      exact S111 w1 H (hb.trans (k1.mono hb.size)) (Nat.lt_of_lt_of_le hH k1.size) (c1 H hH hc)
  have S001 : ∀ wx H, Below w.heap.size w wx → H < wx.heap.size → wx.cell? ⟨H, 0, none⟩ = some (.int .u8 (kind : Int)) → wpAny Tryz.prog .any OPS QQ 7 #[true, true, true, false, true, true, true, false, false, true, false, false, true, false, false] { tmps := #[.int .i64 kind, .int .i64 id, .string body, undef, undef, undef, .string ⟨#[]⟩, .string body, .int .i64 body.size, .int .i64 (3 + (body.size : Int)), undef, .int .i64 kind, .int .u8 kind, .slice (some ⟨H, 0, none⟩) 1 1, undef, undef, .int .i64 id, undef, undef, .string body, undef], defers := [] } wx := by
    intro wx H hb hH hc
    subst hO
    refine wpAny_ready (rs := [3, 7]) (by kernel_rfl) (by simp) (AllReady.cons rfl (fun K hK => ?_) (AllReady.cons rfl (fun K hK => ?_) AllReady.nil))
    · go_simp
      refine (HB.out (3 + body.size) _ _ (by omega) (by omega)).mono ?_
      rintro e w1 ⟨rfl, k1, c1⟩
      refine hK _ _ ?_
      exact S101 w1 H (hb.trans (k1.mono hb.size)) (Nat.lt_of_lt_of_le hH k1.size) (c1 H hH hc)
    · have hcv := conv1 wx H kind hk hc
      go_simp
      refine hK _ _ ?_
      exact S002 wx H hb
  have S110 : ∀ wx, Below w.heap.size w wx → wpAny Tryz.prog .any OPS QQ 6 #[true, true, true, true, true, true, false, false, false, true, true, false, true, false, false] { tmps := #[.int .i64 kind, .int .i64 id, .string body, undef, undef, undef, .string ⟨#[]⟩, .string body, .int .i64 body.size, .int .i64 (3 + (body.size : Int)), .string (b8 ((3 + body.size) / 256) ++ b8 ((3 + body.size) % 256)), .int .i64 kind, .int .u8 kind, undef, undef, undef, .int .i64 id, .string (b8 (id / 256) ++ b8 (id % 256)), undef, .string body, undef], defers := [] } wx := by
    intro wx hb
    subst hO
    refine wpAny_ready (rs := [6]) (by kernel_rfl) (by simp) (AllReady.cons rfl (fun K hK => ?_) AllReady.nil)
    · go_simp
      refine hK _ _ ?_
      exact S111 _ wx.heap.size (hb.alloc hb.size _) (by simp) ((Blk.new wx 5 #[.int .u8 kind]).cell 0)
  have S100 : ∀ wx, Below w.heap.size w wx → wpAny Tryz.prog .any OPS QQ 7 #[true, true, true, true, true, true, false, false, false, true, false, false, true, false, false] { tmps := #[.int .i64 kind, .int .i64 id, .string body, undef, undef, undef, .string ⟨#[]⟩, .string body, .int .i64 body.size, .int .i64 (3 + (body.size : Int)), .string (b8 ((3 + body.size) / 256) ++ b8 ((3 + body.size) % 256)), .int .i64 kind, .int .u8 kind, undef, undef, undef, .int .i64 id, undef, undef, .string body, undef], defers := [] } wx := by
    intro wx hb
    subst hO
    refine wpAny_ready (rs := [6, 10]) (by kernel_rfl) (by simp) (AllReady.cons rfl (fun K hK => ?_) (AllReady.cons rfl (fun K hK => ?_) AllReady.nil))
    · go_simp
      refine hK _ _ ?_
      exact S101 _ wx.heap.size (hb.alloc hb.size _) (by simp) ((Blk.new wx 5 #[.int .u8 kind]).cell 0)
    · go_simp
      refine (HB.out id _ _ hi rfl).mono ?_
      rintro e w1 ⟨rfl, k1, c1⟩
      refine hK _ _ ?_
      exact S110 w1 (hb.trans (k1.mono hb.size))
  have S000 : ∀ wx, Below w.heap.size w wx → wpAny Tryz.prog .any OPS QQ 8 #[true, true, true, false, true, true, false, false, false, true, false, false, true, false, false] { tmps := #[.int .i64 kind, .int .i64 id, .string body, undef, undef, undef, .string ⟨#[]⟩, .string body, .int .i64 body.size, .int .i64 (3 + (body.size : Int)), undef, .int .i64 kind, .int .u8 kind, undef, undef, undef, .int .i64 id, undef, undef, .string body, undef], defers := [] } wx := by
    intro wx hb
    subst hO
    refine wpAny_ready (rs := [3, 6]) (by kernel_rfl) (by simp) (AllReady.cons rfl (fun K hK => ?_) (AllReady.cons rfl (fun K hK => ?_) AllReady.nil))
    · go_simp
      refine (HB.out (3 + body.size) _ _ (by omega) (by omega)).mono ?_
      rintro e w1 ⟨rfl, k1, c1⟩
      refine hK _ _ ?_
      exact S100 w1 (hb.trans (k1.mono hb.size))
    · go_simp
      refine hK _ _ ?_
      exact S001 _ wx.heap.size (hb.alloc hb.size _) (by simp) ((Blk.new wx 5 #[.int .u8 kind]).cell 0)
  have hb0 : Below w.heap.size w (World.drew w) := (Below.refl _ _).drew
  subst hO
  refine wpAny_take (i := 0) (v := .string body) rfl (by kernel_rfl) (by kernel_rfl) (by kernel_rfl) (fun c a w h => by subst hQ; exact h) (Or.inl ⟨by rfl, fun w => by first | (go_simp; done) | (go_simp; simp only [b8_size]; omega) | (go_simp; rw [IntKind.wrap_i64]; omega) | (go_simp; rw [IntKind.wrap_u8]; omega)⟩) ?_
  refine wpAny_take (i := 1) (v := .int .i64 body.size) rfl (by kernel_rfl) (by kernel_rfl) (by kernel_rfl) (fun c a w h => by subst hQ; exact h) (Or.inl ⟨by rfl, fun w => by first | (go_simp; done) | (go_simp; simp only [b8_size]; omega) | (go_simp; rw [IntKind.wrap_i64]; omega) | (go_simp; rw [IntKind.wrap_u8]; omega)⟩) ?_
  refine wpAny_take (i := 2) (v := .int .i64 (3 + (body.size : Int))) rfl (by kernel_rfl) (by kernel_rfl) (by kernel_rfl) (fun c a w h => by subst hQ; exact h) (Or.inl ⟨by rfl, fun w => by first | (go_simp; done) | (go_simp; simp only [b8_size]; omega) | (go_simp; rw [IntKind.wrap_i64]; omega) | (go_simp; rw [IntKind.wrap_u8]; omega)⟩) ?_
  refine wpAny_take (i := 4) (v := .int .i64 kind) rfl (by kernel_rfl) (by kernel_rfl) (by kernel_rfl) (fun c a w h => by subst hQ; exact h) (Or.inl ⟨by rfl, fun w => by first | (go_simp; done) | (go_simp; simp only [b8_size]; omega) | (go_simp; rw [IntKind.wrap_i64]; omega) | (go_simp; rw [IntKind.wrap_u8]; omega)⟩) ?_
  refine wpAny_take (i := 5) (v := .int .u8 kind) rfl (by kernel_rfl) (by kernel_rfl) (by kernel_rfl) (fun c a w h => by subst hQ; exact h) (Or.inl ⟨by rfl, fun w => by first | (go_simp; done) | (go_simp; simp only [b8_size]; omega) | (go_simp; rw [IntKind.wrap_i64]; omega) | (go_simp; rw [IntKind.wrap_u8]; omega)⟩) ?_
  refine wpAny_take (i := 9) (v := .int .i64 id) rfl (by kernel_rfl) (by kernel_rfl) (by kernel_rfl) (fun c a w h => by subst hQ; exact h) (Or.inl ⟨by rfl, fun w => by first | (go_simp; done) | (go_simp; simp only [b8_size]; omega) | (go_simp; rw [IntKind.wrap_i64]; omega) | (go_simp; rw [IntKind.wrap_u8]; omega)⟩) ?_
  refine wpAny_take (i := 12) (v := .string body) rfl (by kernel_rfl) (by kernel_rfl) (by kernel_rfl) (fun c a w h => by subst hQ; exact h) (Or.inl ⟨by rfl, fun w => by first | (go_simp; done) | (go_simp; simp only [b8_size]; omega) | (go_simp; rw [IntKind.wrap_i64]; omega) | (go_simp; rw [IntKind.wrap_u8]; omega)⟩) ?_
  exact S000 _ hb0
end Go.Proofs.YthpmcilljbmoiaaGreatDoor
