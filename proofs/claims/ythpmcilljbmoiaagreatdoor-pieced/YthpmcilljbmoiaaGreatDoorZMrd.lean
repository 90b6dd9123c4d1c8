import Derived.Test.YthpmcilljbmoiaaGreatDoorZMpe
namespace Go.Proofs.YthpmcilljbmoiaaGreatDoor
open Go.RowKit Go.Deep

set_option maxRecDepth 100000 in
set_option maxHeartbeats 8000000 in
theorem rest_d : RestD := by
  intro K m p w wc ca cb da ka db kb s z2 x0 x1 x2 x3 x4 x5 x6 x7 x8 x11 x13 x14 x15 x17 x18 x19 x20 x21 x22 x23 x29 x30 x31 x32 x33 x34 x35 x36 x37 x38 x39 x40 x41 x42 x43 x44 x45 x46 x47 x48 x49 x50 x51 x52 x53 x54 x55 x56 x57 x58 x59 x60 x61 x62 x63 x64 x65 x66 x67 x68 x69 x70 x71 x72 x73 x74 x75 x76 x77 x78 x79 x80 x81 x82 x83 x84 x85 x86 x87 x88 x89 x90 x91 x92 x93 x94 x95 x96 x97 x98 x99 x100 x101 x102 x103 x104 x105 x106 x107 x108 x109 x110 x111 x112 x113 x114 x115 x116 x117 x118 x119 x120 x121 x122 x123 x124 x125 x126 x127 x128 x129 x130 x131 x132 x133 x134 x135 x136 x137 x138 x139 x140 x141 x142 x143 x144 x145 x146 x147 x148 x149 x150 x151 x152 x153 x154 x155 x156 x157 x158 x159 x160 x161 x162 x163 x164 x165 x166 x167 x168 x169 x170 x171 x172 x173 x174 x175 x176 x177 x178 x179 x180 x181 x182 x183 x184 x185 x186 x187 x188 x189 x190 x191 x192 x193 x194 x195 x196 x197 x198 x199 x200 x201 x202 x203 x204 x205 x206 x207 x208 x209 x210 x211 x212 x213 x214 x215 x216 x217 x218 x219 x220 x221 x222 x223 x224 x225 x226 x227 x228 x229 x230 x231 x232 x233 x234 x235 x236 x237 x238 x239 x240 x241 x242 x243 x244 x245 x246 x247 x248 x249 x250 x251 x252 x253 x254 x255 x256 x257 x258 x259 x260 x261 x262 x263 x264 x265 x266 x267 x268 x269 x270 x271 x272 x273 x274 k1 k2 HK3 HL HM hp8 hz2 hTu
  obtain ⟨c, hc⟩ : ∃ c, cAfter 17 (Tryz.f9.body.getD .skip) = c := ⟨_, rfl⟩
  rw [hc]
  simp only [Tryz.f9, Option.getD_some, cAfter] at hc
  subst hc
  dsimp only
  generalize s.C.going = G at *
  have k1' : ¬ ((G.size : Int) < 5) := by omega
  have k2' : 2 < G.size := by omega
  have h131 := HK3.out k2'
  go_upto_region 33 with fail
  go_cut [246] (fun s246 wx => s246 = .bool false ∧ wx = wc)
  case first =>
    clear HL hTu HM
    rcases hz2 with rfl | rfl
    · as_aux_lemma =>
        go_wp2_with fail
        go_meet
        exact ⟨rfl, rfl⟩
    · as_aux_lemma =>
        go_wp2_with fail
        go_meet
        exact ⟨rfl, rfl⟩
  case rest =>
    obtain ⟨rfl, rfl⟩ := hcut
    generalize s.D = D at *
    clear h131 k1 k2 k1' k2' hz2 HK3
    have hmm := HM.out
    go_wp2_with fail
    go_loopw [29] (fun kv wr => ∃ k : Nat, k ≤ m ∧ kv = .int .i64 k ∧ Hid (Two K m w cb ca db kb da ka (fun x => x.D = D) (fun x => x.D = D) wr)) (fun kv _ => m - (intOf kv).toNat)
    case atStart => exact ⟨0, by omega, rfl, hTu⟩
    case round =>
      clear hTu
      obtain ⟨k, hkm2, rfl, hTr⟩ := hrel
      by_cases hk : k < m
      · have g1 : (k : Int) < 1 + (p : Int) := by omega
        obtain ⟨d0, _, d2, _⟩ := hTr.out.clients
        have HR1 : Hid (Calls Tryz.prog 25 #[.pointer (some ⟨da, 0, none⟩), .int .i64 k] wr fun r w' => ∃ v, r = .returned (.tuple #[v, .int .i64 0]) ∧ Rw w' 103 3 v (D.shs k).length (slotCells (D.shs k)) ∧ Two K m w cb ca db kb da ka (fun x => x.D = D) (fun x => x.D = D) w' ∧ w'.cell? ⟨cb, 0, none⟩ = some (.pointer (some ⟨db, 0, none⟩))) := by
          refine (two_ring hTr.out.swap k hk (HL.out k hk)).mono ?_
          rintro r w' ⟨v, q0, q1, q2, q3⟩
          exact ⟨v, q0, q1, q3.swap, q3.swap.clients.1⟩
        have HR2 : Hid (∀ w1, Two K m w cb ca db kb da ka (fun x => x.D = D) (fun x => x.D = D) w1 → Calls Tryz.prog 25 #[.pointer (some ⟨db, 0, none⟩), .int .i64 k] w1 fun r w' => ∃ v, r = .returned (.tuple #[v, .int .i64 0]) ∧ Rw w' 103 3 v (D.shs k).length (slotCells (D.shs k)) ∧ Below w1.heap.size w1 w' ∧ Two K m w cb ca db kb da ka (fun x => x.D = D) (fun x => x.D = D) w') := fun w1 h => two_ring h k hk (HL.out k hk)
        have HSm : Hid (∀ v1 v2 w1, Rw w1 103 3 v1 (D.shs k).length (slotCells (D.shs k)) → Rw w1 103 3 v2 (D.shs k).length (slotCells (D.shs k)) → Calls Tryz.prog 27 #[v1, v2] w1 fun r w' => r = .returned (.bool true) ∧ Below w1.heap.size w1 w') := fun v1 v2 w1 h1 h2 => same_any v1 v2 _ w1 h1 h2 (HL.out k hk)
        clear hTr
        go_wp2_with (first | (go_at_call_of 25 (Value.pointer (some ⟨da, 0, none⟩)); refine HR1.out.mono ?_; rintro e wa ⟨v1, rfl, r1, t1, cc⟩) | (go_at_call_of 25 (Value.pointer (some ⟨db, 0, none⟩)); refine (HR2.out _ t1).mono ?_; rintro e wb ⟨v2, rfl, r2, b2, t2⟩) | (go_at_call 27; refine (HSm.out _ _ _ (Rw.below r1 b2) r2).mono ?_; rintro e wd ⟨rfl, b3⟩))
        exact ⟨⟨k + 1, by omega, by simp, t2.below b3⟩, by simp [intOf]; omega⟩
      · have g1 : ¬ ((k : Int) < 1 + (p : Int)) := by omega
        have hbl := hTr.out.bl
        clear hTr
        go_wp2
        go_ret
        exact ⟨rfl, hbl⟩
end Go.Proofs.YthpmcilljbmoiaaGreatDoor
