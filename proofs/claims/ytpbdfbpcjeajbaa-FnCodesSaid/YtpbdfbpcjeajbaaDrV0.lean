/- Lists of values that are being drawn: what a step of the cursor leaves. -/
import Derived.Test.YtpbdfbpcjeajbaaDrF0
import Derived.Test.YtpbdfbpcjeajbaaValB
namespace Go.Proofs.Ytpbdfbpcjeajbaa
open Go.ChangeShapes Go.WideShapes Go.ChangeAt Go.RowKit
set_option linter.unusedVariables false

section
variable {tO tI : TypeId} {w w' : World} {B S n c : Nat} {a : Option Addr} {l : List Vl} {hs : List Vh}
theorem OwnVB.only {b : Nat} (h : OwnVB S tO tI w B a n c l) (ho : Only b w w') (hb : b < B) : OwnVB S tO tI w' B a n c l := h.far (only_grown ho) fun r e => by cases e; exact Or.inl hb
theorem OwnV.only {b : Nat} (h : OwnV tO tI w B a n c l) (ho : Only b w w') (hb : b < B) : OwnV tO tI w' B a n c l := (h.lim.only ho hb).ownV
end
end Go.Proofs.Ytpbdfbpcjeajbaa
