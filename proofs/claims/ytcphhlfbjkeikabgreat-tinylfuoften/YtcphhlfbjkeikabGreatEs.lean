/- Access as a whole lies in Em; State, New, known in Eo, En1, Eq. -/
import Derived.Test.YtcphhlfbjkeikabGreatEq
