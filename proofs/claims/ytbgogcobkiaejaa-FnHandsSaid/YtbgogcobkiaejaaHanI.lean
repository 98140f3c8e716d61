/- The contracts of the program's functions of hands, together. No condition. -/
import Derived.Test.YtbgogcobkiaejaaPoyI
import Derived.Test.YtbgogcobkiaejaaHacI
import Derived.Test.YtbgogcobkiaejaaHadI
import Derived.Test.YtbgogcobkiaejaaHaeI
