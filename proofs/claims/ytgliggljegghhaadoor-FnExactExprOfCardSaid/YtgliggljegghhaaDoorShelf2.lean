/- The shelf's contracts, by another name. -/
import Derived.Test.YtgliggljegghhaaDoorShelf
