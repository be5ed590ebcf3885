/- all that is wanted -/
import Derived.Test.YtfdfdmbnggpnbaaJav
import Derived.Test.YtfdfdmbnggpnbaaJaw
