/- The walk, put together. -/
import Derived.Test.YtgnigjfgddhgiaaBc1FIRST
import Derived.Test.YtgnigjfgddhgiaaBc1ARM0
import Derived.Test.YtgnigjfgddhgiaaBc1ARM1
import Derived.Test.YtgnigjfgddhgiaaBc1ARM2
import Derived.Test.YtgnigjfgddhgiaaBc1ARM3
import Derived.Test.YtgnigjfgddhgiaaBc1ARM4
import Derived.Test.YtgnigjfgddhgiaaBc1ARM5
namespace Go.Proofs.Ytgnigjfgddhgiaa
open Go.RowKit

theorem ref_bakery {W : World} {pa : Option Addr} {n pl pc : Nat} {zs : List Int} (hp : RowI W pa pl pc zs) (h0 : 0 < n) (h4 : n ≤ 4) (hpl : pl ≤ 120) :
    Calls Try.prog 9 #[.int .i64 (n : Int), .slice pa pl pc] W fun e W2 => (∃ ca cc A T C va vc, e = .returned (.agg #[.slice ca pl cc, .slice (some ⟨A, 0, none⟩) n n, .slice (some ⟨T, 0, none⟩) n n, .slice (some ⟨C, 0, none⟩) n n, .slice va (bsAt n zs pl).ins.length vc]) ∧
      RowI W2 ca pl cc (bcL n zs pl) ∧ RowI W2 (some ⟨A, 0, none⟩) n n (natsI (plL (bsAt n zs pl) n)) ∧ RowI W2 (some ⟨T, 0, none⟩) n n (natsI (tkL (bsAt n zs pl) n)) ∧ RowO W2 (some ⟨C, 0, none⟩) n n (chL (bsAt n zs pl) n) ∧ RowI W2 va (bsAt n zs pl).ins.length vc (natsI (bsAt n zs pl).ins)) ∧ Stil W W2 := bakP.whole bak_FIRST bak_ARM0 bak_ARM1 bak_ARM2 bak_ARM3 bak_ARM4 bak_ARM5 W pa n pl pc zs hp h0 h4 hpl
end Go.Proofs.Ytgnigjfgddhgiaa
