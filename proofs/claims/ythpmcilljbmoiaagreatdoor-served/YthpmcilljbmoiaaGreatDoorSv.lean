import Derived.Test.YthpmcilljbmoiaaGreatDoorServe
import Derived.Test.YthpmcilljbmoiaaGreatDoorNewTwo
import Derived.Test.YthpmcilljbmoiaaGreatDoorNamed2
import Derived.Test.YthpmcilljbmoiaaGreatDoorFill
namespace Go.Proofs.YthpmcilljbmoiaaGreatDoor
open Go.RowKit

theorem pickN_lt (z : Int) (m : Nat) (h : 0 < m) : pickN z m < m := Nat.mod_lt _ h
/-- how many names the k-th request of connection i asks for -/
def itm (sz : Nat → Nat → Int) (i k : Nat) : Nat := 1 + pickN (sz i k) 8
def rqs (sz : Nat → Nat → Int) (i m : Nat) : List Rq := (List.range m).map fun k => (k, itm sz i k)
theorem rqs_add (sz : Nat → Nat → Int) (i m : Nat) : rqs sz i (m + 1) = rqs sz i m ++ [(m, itm sz i m)] := by
  simp [rqs, List.range_succ]
theorem itm_ok (sz : Nat → Nat → Int) (i k : Nat) : 1 ≤ itm sz i k ∧ itm sz i k ≤ 8 := by
  have := pickN_lt (sz i k) 8 (by omega)
  unfold itm; omega
theorem rqs_rem (sz : Nat → Nat → Int) (i : Nat) : ∀ m, qRem (rqs sz i m) ≤ 10 * m
  | 0 => by simp [rqs, qRem]
  | m + 1 => by
    have := rqs_rem sz i m
    have := itm_ok sz i m
    rw [rqs_add, qRem_add]; simp only; omega
theorem rqs_reps (sz : Nat → Nat → Int) (i : Nat) : ∀ m, (reps (rqs sz i m)).size ≤ 14 * m
  | 0 => Nat.zero_le _
  | m + 1 => by
    have := rqs_reps sz i m
    have := itm_ok sz i m
    rw [rqs_add, reps_add, ByteArray.size_append, rep_size]; simp only; omega

section
variable {N : Nat → ByteArray} {base db n : Nat}
/-- a depot that is being filled -/
def Sb (N : Nat → ByteArray) (base db n : Nat) (rem : Nat → Nat) (want : Nat → ByteArray) (w : World) : Prop :=
  ∃ U, Ivr N w U db n 0 rem want ∧ (∀ k, U k → base ≤ k) ∧ base ≤ w.heap.size
/-- a depot that serves -/
def Sv (N : Nat → ByteArray) (base db n R : Nat) (want : Nat → ByteArray) (w : World) : Prop :=
  ∃ U t, Inv N w U db n t R want ∧ (∀ k, U k → base ≤ k) ∧ base ≤ w.heap.size
theorem ext_base {U : Nat → Prop} {w w' : World} (h : ∀ k, U k → base ≤ k) (hb : base ≤ w.heap.size) : ∀ k, ext U w w' k → base ≤ k := fun k hk => by
  rcases hk with hk | hk
  · exact h k hk
  · omega
theorem Sb.below {rem : Nat → Nat} {want : Nat → ByteArray} {w w' : World} (h : Sb N base db n rem want w) (hk : Below w.heap.size w w') : Sb N base db n rem want w' := by
  obtain ⟨U, h1, h2, h3⟩ := h
  exact ⟨U, h1.below hk, h2, Nat.le_trans h3 hk.size⟩
theorem Sv.below {R : Nat} {want : Nat → ByteArray} {w w' : World} (h : Sv N base db n R want w) (hk : Below w.heap.size w w') : Sv N base db n R want w' := by
  obtain ⟨U, t, h1, h2, h3⟩ := h
  exact ⟨U, t, h1.below hk, h2, Nat.le_trans h3 hk.size⟩
theorem Sb.sv {rem : Nat → Nat} {want : Nat → ByteArray} {w : World} (h : Sb N base db n rem want w) : Sv N base db n (tot rem n) want w := by
  obtain ⟨U, h1, h2, h3⟩ := h
  exact ⟨U, 0, h1.inv, h2, h3⟩
theorem Sb.open {rem rem' : Nat → Nat} {want want' : Nat → ByteArray} {w : World} (hn : n < 8) (h : Sb N base db n rem want w) (hr : ∀ i, i < n → rem' i = rem i) (hr0 : rem' n = 0) (hw : ∀ i, i < n → want' i = want i) (hw0 : want' n = ⟨#[]⟩) :
    Calls Tryz.prog 33 #[.pointer (some ⟨db, 0, none⟩)] w fun r w' => r = .returned (.tuple #[.int .i64 n, .int .i64 0]) ∧ Below base w w' ∧ Sb N base db (n + 1) rem' want' w' := by
  obtain ⟨U, h1, h2, h3⟩ := h
  refine (open_ivr hn h1).mono ?_
  rintro e w' ⟨rfl, q1, q2⟩
  refine ⟨rfl, q2.toBelow (fun k hk e => by have := h2 k e; omega) h3, ext U w w', q1.congr _ _ (fun i hi => ?_) (fun i hi => ?_), ext_base h2 h3, Nat.le_trans h3 q2.size⟩
  · by_cases hin : i = n
    · subst hin; simp only [if_true]; exact hr0
    · simp only [if_neg hin]; exact hr i (by omega)
  · by_cases hin : i = n
    · subst hin; simp only [if_true]; exact hw0
    · simp only [if_neg hin]; exact hw i (by omega)
theorem Sb.feed (hN : Nok N) {rem rem' : Nat → Nat} {want want' : Nat → ByteArray} {w : World} (c : Nat) (hc : c < n) (x : Rq) (hx : okR x) (h : Sb N base db n rem want w) (hz : rem c + (x.2 + 2) ≤ 150) (hzz : (want c).size + 14 ≤ 1000)
    (hr : ∀ i, i < n → i ≠ c → rem' i = rem i) (hrc : rem' c = rem c + (x.2 + 2)) (hw : ∀ i, i < n → i ≠ c → want' i = want i) (hwc : want' c = want c ++ rep x) :
    Calls Tryz.prog 23 #[.pointer (some ⟨db, 0, none⟩), .int .i64 c, .string (fr N x)] w fun r w' => r = .returned (.int .i64 0) ∧ Below base w w' ∧ Sb N base db n rem' want' w' := by
  obtain ⟨U, h1, h2, h3⟩ := h
  refine (feed_ivr hN c hc x hx h1 hz hzz).mono ?_
  rintro e w' ⟨rfl, q1, q2⟩
  refine ⟨rfl, q2.toBelow (fun k hk e => by have := h2 k e; omega) h3, ext U w w', q1.congr _ _ (fun i hi => ?_) (fun i hi => ?_), ext_base h2 h3, Nat.le_trans h3 q2.size⟩
  · by_cases hin : i = c
    · subst hin; simp only [if_true]; exact hrc
    · simp only [if_neg hin]; exact hr i hi hin
  · by_cases hin : i = c
    · subst hin; simp only [if_true]; exact hwc
    · simp only [if_neg hin]; exact hw i hi hin
theorem Sv.serve (hN : Nok N) {R : Nat} {want : Nat → ByteArray} {w : World} (steps stop : Int) (hs : steps < 9000000000000) (hR : R ≤ 1000000) (h : Sv N base db n R want w) :
    Calls Tryz.prog 31 #[.pointer (some ⟨db, 0, none⟩), .int .i64 steps, .int .i64 stop] w fun r w' => r = .returned (.int .i64 (srv steps stop R : Nat)) ∧ Below base w w' ∧ Sv N base db n (R - srv steps stop R) want w' := by
  obtain ⟨U, t, h1, h2, h3⟩ := h
  refine (serve_any hN steps stop hs hR h1).mono ?_
  rintro e w' ⟨rfl, t', V, q1, q2, q3⟩
  exact ⟨rfl, q3.toBelow (fun k hk e => by have := h2 k e; omega) h3, V, t', q1, fun k hk => (q2 k hk).elim (h2 k) (fun h => Nat.le_trans h3 h), Nat.le_trans h3 q3.size⟩
theorem Sv.take {want : Nat → ByteArray} {w : World} (c : Nat) (hc : c < n) (h : Sv N base db n 0 want w) :
    Calls Tryz.prog 22 #[.pointer (some ⟨db, 0, none⟩), .int .i64 c, .int .i64 1099511627776] w fun r w' => r = .returned (.tuple #[.string (want c), .int .i64 0]) ∧ Below base w w' ∧ Sv N base db n 0 (fun i => if i = c then ⟨#[]⟩ else want i) w' := by
  obtain ⟨U, t, h1, h2, h3⟩ := h
  have := take_inv c hc h1 1099511627776 (by omega) (by omega)
  refine this.mono ?_
  rintro e w' ⟨rfl, q1, q2⟩
  exact ⟨rfl, q2.toBelow (fun k hk e => by have := h2 k e; omega) h3, ext U w w', t, q1, ext_base h2 h3, Nat.le_trans h3 q2.size⟩
end
end Go.Proofs.YthpmcilljbmoiaaGreatDoor
namespace Go.Proofs.YthpmcilljbmoiaaGreatDoor
open Go.RowKit

/-- the two arguments, as they lie in memory -/
structure Args2 (w : World) (a0 : Option Addr) (n0 : Nat) (L : Nat → Nat) (sz : Nat → Nat → Int) (a1 : Option Addr) (n1 : Nat) (st : Nat → Int) : Prop where
  row : ∀ r, r < n0 → ∃ b off A C, a0 = some ⟨b, off, none⟩ ∧ w.cell? ⟨b, off + r, none⟩ = some (.slice A (L r) C) ∧ ∀ k, k < L r → ∃ b' off', A = some ⟨b', off', none⟩ ∧ w.cell? ⟨b', off' + k, none⟩ = some (.int .i64 (sz r k))
  rng : ∀ r k, -9223372036854775808 ≤ sz r k ∧ sz r k ≤ 9223372036854775807
  sto : ∀ s, s < n1 → ∃ b off, a1 = some ⟨b, off, none⟩ ∧ w.cell? ⟨b, off + s, none⟩ = some (.int .i64 (st s))
  srg : ∀ s, -9223372036854775808 ≤ st s ∧ st s ≤ 9223372036854775807
theorem below_cell {w w' : World} (h : Below w.heap.size w w') {p : Addr} {v : Value} (hc : w.cell? p = some v) : w'.cell? p = some v := by
  rw [h.cell (World.block_lt_of_cell? _ _ hc)]; exact hc
theorem Args2.below {w w' : World} {a0 : Option Addr} {n0 : Nat} {L : Nat → Nat} {sz : Nat → Nat → Int} {a1 : Option Addr} {n1 : Nat} {st : Nat → Int} (h : Args2 w a0 n0 L sz a1 n1 st) (hb : Below w.heap.size w w') : Args2 w' a0 n0 L sz a1 n1 st :=
  ⟨fun r hr => by
    obtain ⟨b, off, A, C, e, h1, h2⟩ := h.row r hr
    refine ⟨b, off, A, C, e, below_cell hb h1, fun k hk => ?_⟩
    obtain ⟨b', off', e', h3⟩ := h2 k hk
    exact ⟨b', off', e', below_cell hb h3⟩, h.rng, fun s hs => by
    obtain ⟨b, off, e, h1⟩ := h.sto s hs
    exact ⟨b, off, e, below_cell hb h1⟩, h.srg⟩

/-- how many requests connection j gets -/
def cnt (L : Nat → Nat) (j : Nat) : Nat := min (L j) 9
def Qf (L : Nat → Nat) (sz : Nat → Nat → Int) (j : Nat) : Nat := qRem (rqs sz j (cnt L j))
def Tf (L : Nat → Nat) (sz : Nat → Nat → Int) (j : Nat) : ByteArray := reps (rqs sz j (cnt L j))
def Qk (L : Nat → Nat) (sz : Nat → Nat → Int) (i k j : Nat) : Nat := if j = i then qRem (rqs sz i k) else Qf L sz j
def Tk (L : Nat → Nat) (sz : Nat → Nat → Int) (i k j : Nat) : ByteArray := if j = i then reps (rqs sz i k) else Tf L sz j
theorem Qf_le (L : Nat → Nat) (sz : Nat → Nat → Int) (j : Nat) : Qf L sz j ≤ 90 := by
  have := rqs_rem sz j (cnt L j)
  unfold Qf cnt at *
  omega
theorem tot_le (f : Nat → Nat) (m : Nat) (h : ∀ i, f i ≤ m) : ∀ n, tot f n ≤ n * m
  | 0 => by simp [tot]
  | n + 1 => by
    have := tot_le f m h n
    have := h n
    rw [tot, Nat.add_mul]
    omega
theorem Sb.congr {N : Nat → ByteArray} {base db n : Nat} {rem rem' : Nat → Nat} {want want' : Nat → ByteArray} {w : World} (h : Sb N base db n rem want w) (hr : ∀ i, i < n → rem' i = rem i) (hw : ∀ i, i < n → want' i = want i) : Sb N base db n rem' want' w := by
  obtain ⟨U, h1, h2, h3⟩ := h
  exact ⟨U, h1.congr _ _ hr hw, h2, h3⟩
/-- the depot as New makes it -/
theorem Nw.sb {N : Nat → ByteArray} {w W : World} {m room : Nat} {shv : Value} {sh : Nat → Nat} (h : Nw w m room m W shv sh) (hm0 : 0 < m) (hm8 : m ≤ 8) (rem : Nat → Nat) (want : Nat → ByteArray) : Sb N w.heap.size (w.heap.size + 1) 0 rem want W := by
  refine ⟨fun k => w.heap.size ≤ k ∧ k < W.heap.size, ⟨fun k => w.heap.size ≤ k ∧ k < W.heap.size, fun _ _ => False, fun _ => 0, ⟨⟨⟨shv, .slice none 0 0, h.de, Rw.nil _ _ _, fun k hk => by simp [Value.ownBlock] at hk⟩, ⟨shv, _, m, sh, room, h.de, rfl, h.sl, h.sd, ⟨by omega, h.de.lt⟩, fun k hk => ⟨?_, Rw.lt h.sl hk⟩, fun j hj => ⟨?_, (h.sd j hj).lt⟩, hm0, hm8⟩, ⟨by omega, h.de.lt⟩, fun k hk => hk.2, by omega, by omega⟩, fun i hi => by omega, fun i hi => by omega, fun i j hi => by omega, fun k hk => hk, fun i hi => by omega, fun k hk => hk.2⟩⟩, fun k hk => hk.1, h.bl.size⟩
  · have := h.fr k hk; omega
  · have := h.fs j hj; omega
end Go.Proofs.YthpmcilljbmoiaaGreatDoor
