package tests

import (
	"regexp"
	"slices"
	"strings"

	"loop.example/maltshare/impl"
)

// What the document says, written down once more by other means than the program's own.

var nameForm = regexp.MustCompile(`\A[a-z0-9-]{1,8}\z`)

// rising says whether a list is sorted, and has no name twice.
func rising(names []string) bool {
	sorted := slices.Clone(names)
	slices.Sort(sorted)
	return slices.Equal(slices.Compact(sorted), names)
}

// everyIn says whether each of some is one of all.
func everyIn(some, all []string) bool {
	return !slices.ContainsFunc(some, func(s string) bool { return !slices.Contains(all, s) })
}

// saidOk says whether a book is ok by the words of chapter 1.
func saidOk(b impl.ShareBook) bool {
	if len(b.Things) > 8 || len(b.Batches) > 5 {
		return false
	}
	var names, had []string
	for _, x := range b.Batches {
		names = append(names, x.Name)
		had = append(had, x.Has...)
		if !everyIn(x.Needs, b.Things) || !everyIn(x.Has, x.Needs) || !rising(x.Needs) || !rising(x.Has) {
			return false
		}
	}
	for _, name := range slices.Concat(names, b.Things) {
		if !nameForm.MatchString(name) {
			return false
		}
	}
	slices.Sort(had)
	return rising(b.Things) && rising(names) && rising(had)
}

// saidFits says whether an order of places, which has each batch once, fits by the words of chapter 2.
func saidFits(b impl.ShareBook, places []int) bool {
	for at, place := range places {
		for _, other := range places[at+1:] {
			for _, thing := range b.Batches[other].Has {
				if slices.Contains(b.Batches[place].Needs, thing) {
					return false
				}
			}
		}
	}
	return true
}

// allOrders is every order of the places 0 to n-1, those that begin with lesser places first.
func allOrders(n int) [][]int {
	var orders [][]int
	var grow func(order []int)
	grow = func(order []int) {
		if len(order) == n {
			orders = append(orders, slices.Clone(order))
			return
		}
		for place := range n {
			if !slices.Contains(order, place) {
				grow(append(slices.Clone(order), place))
			}
		}
	}
	grow(nil)
	return orders
}

// namesAt is the names of batches at places.
func namesAt(b impl.ShareBook, places []int) []string {
	var names []string
	for _, place := range places {
		names = append(names, b.Batches[place].Name)
	}
	return names
}

// someFits says whether one of the orders fits a book.
func someFits(b impl.ShareBook, orders [][]int) bool {
	return slices.ContainsFunc(orders, func(places []int) bool { return saidFits(b, places) })
}

// meets says whether two lists have a name in common.
func meets(one, two []string) bool {
	return slices.ContainsFunc(one, func(s string) bool { return slices.Contains(two, s) })
}

// hadByOthers is what all but the batch at a place have.
func hadByOthers(b impl.ShareBook, place int) []string {
	var had []string
	for i, x := range b.Batches {
		if i != place {
			had = append(had, x.Has...)
		}
	}
	return had
}

// call is one of the four of chapter 3, by its word in sessions.
type call struct {
	word, name string
	names      []string
}

// do is what the program answers.
func (c call) do(b impl.ShareBook) (impl.ShareBook, int) {
	switch c.word {
	case "enter":
		return impl.ShareEnter(b, c.name, c.names)
	case "ask":
		return impl.ShareAsk(b, c.name, c.names)
	case "less":
		return impl.ShareLess(b, c.name, c.names)
	case "leave":
		return impl.ShareLeave(b, c.name)
	}
	panic("no such call: " + c.word)
}

// said is what the words of chapter 3 ask for.
func (c call) said(b impl.ShareBook) (impl.ShareBook, int) {
	if !saidOk(b) {
		return impl.ShareBook{}, 1
	}
	place := slices.IndexFunc(b.Batches, func(x impl.ShareBatch) bool { return x.Name == c.name })
	if c.word == "enter" {
		return c.saidEnter(b, place)
	}
	after := copyBook(b)
	if place < 0 {
		return after, 3
	}
	if c.word == "leave" {
		after.Batches = slices.Concat(b.Batches[:place], b.Batches[place+1:])
		return after, 0
	}
	x := &after.Batches[place]
	if !everyIn(c.names, x.Needs) || !rising(c.names) {
		return after, 2
	}
	if c.word == "less" {
		x.Needs = slices.Clone(c.names)
		x.Has = slices.DeleteFunc(x.Has, func(thing string) bool { return !slices.Contains(c.names, thing) })
		return after, 0
	}
	if meets(c.names, hadByOthers(b, place)) {
		return after, 5
	}
	x.Has = append(x.Has, c.names...)
	slices.Sort(x.Has)
	x.Has = slices.Compact(x.Has)
	if orders := allOrders(len(b.Batches)); someFits(b, orders) && !someFits(after, orders) {
		return copyBook(b), 6
	}
	return after, 0
}

// saidEnter is said for a batch that comes in; place is where one of its name is, or below 0.
func (c call) saidEnter(b impl.ShareBook, place int) (impl.ShareBook, int) {
	after := copyBook(b)
	switch {
	case !nameForm.MatchString(c.name) || !everyIn(c.names, b.Things) || !rising(c.names):
		return after, 2
	case place >= 0:
		return after, 3
	case len(b.Batches) == 5:
		return after, 4
	}
	after.Batches = append(after.Batches, batch(c.name, nil, slices.Clone(c.names)))
	slices.SortFunc(after.Batches, func(x, y impl.ShareBatch) int { return strings.Compare(x.Name, y.Name) })
	return after, 0
}

// saidMoves is ShareMoves by the words of chapter 4.
func saidMoves(b impl.ShareBook) []string {
	var moves []string
	for place, x := range b.Batches {
		if saidOk(b) && !meets(x.Needs, hadByOthers(b, place)) {
			moves = append(moves, x.Name)
		}
	}
	return moves
}

// saidStuck is ShareStuck by the words of chapter 4.
func saidStuck(b impl.ShareBook) bool {
	return saidOk(b) && len(b.Batches) > 0 && len(saidMoves(b)) == 0
}

// saidWaits is ShareWaits by the words of chapter 4.
func saidWaits(b impl.ShareBook, name string) []string {
	var waits []string
	for _, x := range b.Batches {
		for _, other := range b.Batches {
			if saidOk(b) && x.Name == name && other.Name != name && meets(other.Has, x.Needs) {
				waits = append(waits, other.Name)
			}
		}
	}
	return waits
}

// saidMovesOf is movesOf by the words of chapter 4.
func saidMovesOf(b impl.ShareBook) [][]string {
	told := [][]string{saidMoves(b)}
	for _, x := range b.Batches {
		told = append(told, saidWaits(b, x.Name))
	}
	return told
}

// sameBook says whether two books are the same, nil lists and empty lists alike.
func sameBook(b, c impl.ShareBook) bool {
	return slices.Equal(b.Things, c.Things) && slices.EqualFunc(b.Batches, c.Batches, func(x, y impl.ShareBatch) bool {
		return x.Name == y.Name && slices.Equal(x.Has, y.Has) && slices.Equal(x.Needs, y.Needs)
	})
}
