package flag

import "roundhouse/api"

// known is what is known of a driver.
type known struct {
	driver   int
	word     string
	features int
}

// drivers has the most preferred one first.
var drivers = [4]known{
	{api.Kqueue, "kqueue", api.FeatEdge | api.FeatBig | api.FeatSignals | api.FeatChanges},
	{api.Epoll, "epoll", api.FeatEdge | api.FeatBig | api.FeatChanges},
	{api.Poll, "poll", api.FeatBig},
	{api.Select, "select", 0},
}

// find is what is known of a driver: zero values if there is no such driver.
func find(driver int) known {
	for _, k := range drivers {
		if k.driver == driver {
			return k
		}
	}
	return known{}
}

// suits says whether the driver has all that is needed and nothing that is avoided.
func (k known) suits(need, avoid int) bool {
	return need&^k.features == 0 && avoid&k.features == 0
}
