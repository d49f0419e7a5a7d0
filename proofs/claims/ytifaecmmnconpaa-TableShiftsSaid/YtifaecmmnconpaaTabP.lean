/- The contracts of layer 4's program, under one roof. -/
import Derived.Test.YtifaecmmnconpaaTabP1
import Derived.Test.YtifaecmmnconpaaTabP3
import Derived.Test.YtifaecmmnconpaaTabP5
import Derived.Test.YtifaecmmnconpaaTabP7
import Derived.Test.YtifaecmmnconpaaTabP8
