package turn

import "slices"

// upTo are the numbers below n, in their order.
func upTo(n int) []int {
	list := make([]int, n)
	for i := range list {
		list[i] = i
	}
	return list
}

// inverse is the permutation that tells where each number stands in another one.
func inverse(list []int) []int {
	places := make([]int, len(list))
	for place, x := range list {
		places[x] = place
	}
	return places
}

// moved is a list of which what stands at a place is taken out, and put in so that it stands at another one.
func moved(list []int, from, to int) []int {
	rest := slices.Delete(slices.Clone(list), from, from+1)
	return slices.Insert(rest, to, list[from])
}

// bestPlace is the one that costs least: the own one, if it is among those that do, else the first.
func bestPlace(costs []int, own int) int {
	least := slices.Min(costs)
	if costs[own] == least {
		return own
	}
	return slices.Index(costs, least)
}

// seatOf is the seat of a level that is moved to a place: how many others that a diagram hangs on stand ahead of it then.
func seatOf(place, level int, others []int) int {
	seat := 0
	for _, other := range others {
		if other > level { // the level has been taken out above it
			other--
		}
		if other < place {
			seat++
		}
	}
	return seat
}
