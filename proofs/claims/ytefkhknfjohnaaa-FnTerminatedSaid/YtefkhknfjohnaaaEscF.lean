/- EscapeBytes' contracts, its result named. -/
import Derived.Test.YtefkhknfjohnaaaSEsc
import Derived.Test.YtefkhknfjohnaaaPA
namespace Go.Proofs.Ytefkhknfjohnaaa
open Go Go.RowKit
/-- The escaped content and the terminator. -/
def escF (t : UInt8) (bs : List UInt8) : List UInt8 := escB t bs ++ [t]
theorem escF_le (t : UInt8) (bs : List UInt8) : (escF t bs).length ≤ 2 * bs.length + 1 := by
  have h1 := escB_length t bs
  have h2 := escLen_le t bs
  simp only [escF, List.length_append, List.length_singleton]
  omega
theorem escF_impl (a : Option Addr) (bs : List UInt8) (cap : Nat) (t : UInt8) (w : World) (hl : bs.length ≤ 1048576) (h : Rd a bs w) :
    Calls Try.prog 10 #[.slice a bs.length cap, .int .u8 (t.toNat : Int)] w (BytesOut (escF t bs) w) := esc_impl a bs cap t w hl h
end Go.Proofs.Ytefkhknfjohnaaa
