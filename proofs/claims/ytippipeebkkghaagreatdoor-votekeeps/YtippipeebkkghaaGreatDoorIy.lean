/- Held: not at this seat. -/
import Derived.Test.YtippipeebkkghaaGreatDoorIx
import Derived.Test.YtippipeebkkghaaGreatDoorTh
