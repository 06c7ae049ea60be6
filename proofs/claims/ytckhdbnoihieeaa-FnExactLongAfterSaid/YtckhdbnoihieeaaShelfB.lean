/-
  What is proved here: nothing; this seat's program needs no contract of a builder. The texts that name this module are written for seats that do.
-/
import Derived.Test.YtckhdbnoihieeaaProg
