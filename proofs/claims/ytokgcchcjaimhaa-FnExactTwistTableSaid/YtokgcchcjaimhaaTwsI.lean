/- The contracts of the program's functions of twists (implTab, implTwO, implTot, implUnt, implWnd, implLst), gathered. Condition: the crossings lie in a row of their own. -/
import Derived.Test.YtokgcchcjaimhaaTwbI
import Derived.Test.YtokgcchcjaimhaaTwcI
import Derived.Test.YtokgcchcjaimhaaTwoI
import Derived.Test.YtokgcchcjaimhaaTwvI
import Derived.Test.YtokgcchcjaimhaaTwlI
