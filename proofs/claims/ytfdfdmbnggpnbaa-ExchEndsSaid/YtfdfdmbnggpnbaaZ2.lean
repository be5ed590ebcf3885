/- all that is wanted -/
import Derived.Test.YtfdfdmbnggpnbaaVar
import Derived.Test.YtfdfdmbnggpnbaaVas
import Derived.Test.YtfdfdmbnggpnbaaVat
import Derived.Test.YtfdfdmbnggpnbaaVaw
