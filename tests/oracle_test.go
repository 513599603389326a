package tests

import (
	"regexp"
	"slices"

	"loop.example/maltshare/impl"
)

// What the document says, written down once more by other means than the program's own.

var nameForm = regexp.MustCompile(`\A[a-z0-9-]{1,8}\z`)

// rising says whether a list is sorted, and has no name twice.
func rising(names []string) bool {
	sorted := slices.Clone(names)
	slices.Sort(sorted)
	return slices.Equal(slices.Compact(sorted), names)
}

// everyIn says whether each of some is one of all.
func everyIn(some, all []string) bool {
	return !slices.ContainsFunc(some, func(s string) bool { return !slices.Contains(all, s) })
}

// saidOk says whether a book is ok by the words of chapter 1.
func saidOk(b impl.ShareBook) bool {
	if len(b.Things) > 8 || len(b.Batches) > 5 {
		return false
	}
	var names, had []string
	for _, x := range b.Batches {
		names = append(names, x.Name)
		had = append(had, x.Has...)
		if !everyIn(x.Needs, b.Things) || !everyIn(x.Has, x.Needs) || !rising(x.Needs) || !rising(x.Has) {
			return false
		}
	}
	for _, name := range slices.Concat(names, b.Things) {
		if !nameForm.MatchString(name) {
			return false
		}
	}
	slices.Sort(had)
	return rising(b.Things) && rising(names) && rising(had)
}

// saidFits says whether an order of places, which has each batch once, fits by the words of chapter 2.
func saidFits(b impl.ShareBook, places []int) bool {
	for at, place := range places {
		for _, other := range places[at+1:] {
			for _, thing := range b.Batches[other].Has {
				if slices.Contains(b.Batches[place].Needs, thing) {
					return false
				}
			}
		}
	}
	return true
}

// allOrders is every order of the places 0 to n-1, those that begin with lesser places first.
func allOrders(n int) [][]int {
	var orders [][]int
	var grow func(order []int)
	grow = func(order []int) {
		if len(order) == n {
			orders = append(orders, slices.Clone(order))
			return
		}
		for place := range n {
			if !slices.Contains(order, place) {
				grow(append(slices.Clone(order), place))
			}
		}
	}
	grow(nil)
	return orders
}

// namesAt is the names of batches at places.
func namesAt(b impl.ShareBook, places []int) []string {
	var names []string
	for _, place := range places {
		names = append(names, b.Batches[place].Name)
	}
	return names
}
