import Derived.Test.YthpmcilljbmoiaaGreatDoorZMpe
namespace Go.Proofs.YthpmcilljbmoiaaGreatDoor
open Go.RowKit Go.Deep

set_option maxRecDepth 100000 in
set_option maxHeartbeats 8000000 in
theorem rest_a (hN : RestB) : RestA := by
  intro K m p w wc ca cb da ka db kb at_ S x0 x1 x2 x3 x4 x5 x6 x7 x8 x11 x13 x14 x18 x19 x20 x21 x22 x23 x24 x25 x26 x27 x28 x29 x30 x31 x32 x33 x34 x35 x36 x37 x38 x39 x40 x41 x42 x43 x44 x45 x46 x47 x48 x49 x50 x51 x52 x53 x54 x55 x56 x57 x58 x59 x60 x61 x62 x63 x64 x65 x66 x67 x68 x69 x70 x71 x72 x73 x74 x75 x76 x77 x78 x79 x80 x81 x82 x83 x84 x85 x86 x87 x88 x89 x90 x91 x92 x93 x94 x95 x96 x97 x98 x99 x100 x101 x102 x103 x104 x105 x106 x107 x108 x109 x110 x111 x112 x113 x114 x115 x116 x117 x118 x119 x120 x121 x122 x123 x124 x125 x126 x127 x128 x129 x130 x131 x132 x133 x134 x135 x136 x137 x138 x139 x140 x141 x142 x143 x144 x145 x146 x147 x148 x149 x150 x151 x152 x153 x154 x155 x156 x157 x158 x159 x160 x161 x162 x163 x164 x165 x166 x167 x168 x169 x170 x171 x172 x173 x174 x175 x176 x177 x178 x179 x180 x181 x182 x183 x184 x185 x186 x187 x188 x189 x190 x191 x192 x193 x194 x195 x196 x197 x198 x199 x200 x201 x202 x203 x204 x205 x206 x207 x208 x209 x210 x211 x212 x213 x214 x215 x216 x217 x218 x219 x220 x221 x222 x223 x224 x225 x226 x227 x228 x229 x230 x231 x232 x233 x234 x235 x236 x237 x238 x239 x240 x241 x242 x243 x244 x245 x246 x247 x248 x249 x250 x251 x252 x253 x254 x255 x256 x257 x258 x259 x260 x261 x262 x263 x264 x265 x266 x267 x268 x269 x270 x271 x272 x273 x274 hSz HGo HM hp8 hat hTx
  obtain ⟨c, hc⟩ : ∃ c, cAfter 13 (Tryz.f9.body.getD .skip) = c := ⟨_, rfl⟩
  rw [hc]
  simp only [Tryz.f9, Option.getD_some, cAfter] at hc
  subst hc
  dsimp only
  have e1 : (0 : Int) ≤ (at_ : Int) := by omega
  have e2 : (at_ : Int) ≤ (S.size : Int) := by omega
  have HFd : Hid (Calls Tryz.prog 23 #[.pointer (some ⟨db, 0, none⟩), .int .i64 0, .string (S.extract at_ S.size)] (World.drew wc) fun r w' => (∃ z : Int, (z = 0 ∨ z = 3) ∧ r = .returned (.int .i64 z)) ∧ Two K m w cb ca db kb da ka (Rsd K m S) (Red K m S) w') := by
    have := two_feed hTx.out.drew (S.extract at_ S.size) (by rw [ex_app _ _ _ hat, ByteArray.extract_zero_size]; exact hSz)
    rw [ex_app _ _ _ hat, ByteArray.extract_zero_size] at this
    exact this
  obtain ⟨d0, d1, _, _⟩ := hTx.out.clients
  go_upto_region 29 with fail
  go_cut [24] (fun s24 wx => ∃ z : Int, (z = 0 ∨ z = 3) ∧ s24 = .int .i64 z ∧ Hid (Two K m w cb ca db kb da ka (Rsd K m S) (Red K m S) wx))
  case first =>
    have d0' : (World.drew wc).cell? ⟨cb, 0, none⟩ = some (.pointer (some ⟨db, 0, none⟩)) := d0
    have d1' : (World.drew wc).cell? ⟨cb, 1, none⟩ = some (.int .i64 0) := d1
    go_still_tail 11, (by kernel_rfl)
    go_wp2_with (go_at_call 23; refine HFd.out.mono ?_; rintro e wx ⟨⟨z2, hz2, rfl⟩, hx⟩)
    go_meet
    exact ⟨z2, hz2, rfl, hx⟩
  case rest =>
    obtain ⟨z2, hz2, rfl, hTz⟩ := hcut
    refine ‹∀ (a : Act) (w : World), Code.wp Tryz.prog (cAfter 14 (Tryz.f9.body.getD .skip)) _ a w → _› _ _ ?_
    exact hN K m p w wc ca cb da ka db kb S z2 hSz HGo HM hp8 hz2 hTz
end Go.Proofs.YthpmcilljbmoiaaGreatDoor
