/- A step that more than one order leads to: what follows is proved once. -/
import Derived.Test.YtfpennnbicclfaaProg
namespace Go.Proofs.Ytfpennnbicclfaa

/-- What follows is proved once, however many orders come to it. -/
theorem once {A B : Prop} (h : A → B) (a : A) : B := h a
end Go.Proofs.Ytfpennnbicclfaa
