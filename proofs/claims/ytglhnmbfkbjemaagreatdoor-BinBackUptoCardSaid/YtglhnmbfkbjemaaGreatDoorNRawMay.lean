/- raw.May, by its contract (package norm calls it). -/
import Derived.Test.YtglhnmbfkbjemaaGreatDoorBkD
