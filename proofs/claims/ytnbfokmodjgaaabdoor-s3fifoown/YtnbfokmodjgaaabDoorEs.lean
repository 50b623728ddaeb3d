/- Access as a whole lies in Ek; State, New, known in Eo, En1, Eq. -/
import Derived.Test.YtnbfokmodjgaaabDoorEq
