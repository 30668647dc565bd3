/-
  ShelfC
-/
import Derived.Test.YtpcpcfnmcfjomaaGreatDoorK01

