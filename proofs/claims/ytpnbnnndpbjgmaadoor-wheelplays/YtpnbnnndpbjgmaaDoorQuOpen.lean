/-
  Both what a list of rings that is handed in gives a walk, and what is laid.
-/
import Derived.Test.YtpnbnnndpbjgmaaDoorQuRin
import Derived.Test.YtpnbnnndpbjgmaaDoorLayG
