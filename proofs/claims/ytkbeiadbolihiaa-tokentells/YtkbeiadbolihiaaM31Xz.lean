/- The reference of token: brackets as a whole; the law TokenLexes. -/
import Derived.Test.YtkbeiadbolihiaaM30Xy
import Derived.Test.YtkbeiadbolihiaaM27Xq
namespace Go.Proofs.Ytkbeiadbolihiaa
open Go.RowKit Go.Shelf
theorem brackets_any (ao : Option Addr) (n cap op : Nat) (z : Nat → Nat) (w : World) (hr : Rd w ao n z) (hn : (n : Int) ≤ 1024) (ho : op < n) : Calls Try.prog 25 #[.slice ao n cap, .int .i64 (op : Nat)] w (RetO w (tokOf (brkS z n op).z) (brkS z n op).en (brkS z n op).er) := by
  obtain ⟨bb, off, rfl, _, _⟩ := hr.at_ (by omega)
  by_cases h1 : op + 1 < n
  · by_cases hx : z (op + 1) = 94
    · exact rbr_yes bb off n cap op z w hr hn h1 hx
    · exact rbr_no bb off n cap op z w hr hn h1 _ rfl hx
  · exact rbr_end bb off n cap op z w hn ho h1
theorem lexes_all (ao : Option Addr) (n cap : Nat) (z : Nat → Nat) (w : World) (hr : Rd w ao n z) : Calls Try.prog 3 #[.slice ao n cap] w (RetB w true) :=
  lexes_any ao n cap z w hr fun at_ ha _ hn W hb => brackets_any ao n cap at_ z W (hr.below hb) hn ha
end Go.Proofs.Ytkbeiadbolihiaa
