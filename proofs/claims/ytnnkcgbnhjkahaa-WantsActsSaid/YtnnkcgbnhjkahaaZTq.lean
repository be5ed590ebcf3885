/- all that is wanted -/
import Derived.Test.YtnnkcgbnhjkahaaJaj
import Derived.Test.YtnnkcgbnhjkahaaJak
import Derived.Test.YtnnkcgbnhjkahaaJam
import Derived.Test.YtnnkcgbnhjkahaaJan
import Derived.Test.YtnnkcgbnhjkahaaJao
import Derived.Test.YtnnkcgbnhjkahaaJap
import Derived.Test.YtnnkcgbnhjkahaaJab
import Derived.Test.YtnnkcgbnhjkahaaJai
import Derived.Test.YtnnkcgbnhjkahaaJaq
import Derived.Test.YtnnkcgbnhjkahaaJar
import Derived.Test.YtnnkcgbnhjkahaaJas
import Derived.Test.YtnnkcgbnhjkahaaJat
