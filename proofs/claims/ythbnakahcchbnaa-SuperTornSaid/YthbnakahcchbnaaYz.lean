/- The program's calls answer as they are to. -/
import Derived.Test.YthbnakahcchbnaaYh
import Derived.Test.YthbnakahcchbnaaZn
namespace Go.Proofs.Ythbnakahcchbnaa
open Go.RowKit
theorem sup : Sup := ⟨fun s w _ => may_any s w, fun s w h => put_sup s w h, fun ao n c l w h1 h2 h3 h4 => take_sup ao n c l w h1 h2 h3 h4, fun ao n c l bo m d k w h1 h2 h3 h4 h5 h6 h7 h8 => choose_sup ao n c l bo m d k w h1 h2 h3 h4 h5 h6 h7 h8⟩
end Go.Proofs.Ythbnakahcchbnaa
