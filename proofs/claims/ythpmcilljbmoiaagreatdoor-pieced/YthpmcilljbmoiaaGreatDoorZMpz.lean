import Derived.Test.YthpmcilljbmoiaaGreatDoorZMpc
import Derived.Test.YthpmcilljbmoiaaGreatDoorZMra
import Derived.Test.YthpmcilljbmoiaaGreatDoorZMrb
import Derived.Test.YthpmcilljbmoiaaGreatDoorZMrc
import Derived.Test.YthpmcilljbmoiaaGreatDoorZMrd
namespace Go.Proofs.YthpmcilljbmoiaaGreatDoor
open Go.RowKit

theorem pieced_any (K : List Nat) (z : Int) (hz1 : -9223372036854775808 ≤ z) (hz2 : z ≤ 9223372036854775807) (a1 : Option Addr) (n1 c1 : Nat) (Sx : Nat → ByteArray) (raw : ByteArray) (a3 : Option Addr) (n3 c3 : Nat) (cz : Nat → Int) (hcz : ∀ i, -9223372036854775808 ≤ cz i ∧ cz i ≤ 9223372036854775807) (w : World) (hT : Tb K w) (hS : Txt w a1 n1 Sx) (hC : Ivs w a3 n3 cz) :
    Calls Tryz.prog 9 #[.int .i64 z, .slice a1 n1 c1, .string raw, .slice a3 n3 c3] w fun r w' => r = .returned (.bool true) ∧ Below w.heap.size w w' :=
  pieced_of (rest_a (rest_b (rest_c rest_d))) K z hz1 hz2 a1 n1 c1 Sx raw a3 n3 c3 cz hcz w hT hS hC
end Go.Proofs.YthpmcilljbmoiaaGreatDoor
