package impl

import (
	"iter"
	"slices"
)

// thingBits is a set of things: the bit of a thing is 1 moved up by its place in Things.
type thingBits uint

// bitsOf is the bits of a list, summed. Going by Things counts no bit twice, whatever the list.
func bitsOf(list, things nameList) thingBits {
	var sum thingBits
	for place, thing := range things {
		if slices.Contains(list, thing) {
			sum += 1 << place
		}
	}
	return sum
}

// going is a book whose batches go one by one. In a book that is ok no two have one thing,
// so what is free is kept by adding: it never carries from one bit into the next.
type going struct {
	has   []thingBits
	needs []thingBits
	gone  []bool
	free  thingBits
}

// startGoing is the going of a book that is ok, with nobody gone yet.
func startGoing(b ShareBook) *going {
	g := &going{gone: make([]bool, len(b.Batches)), free: bitsOf(b.Things, b.Things)}
	for _, batch := range b.Batches {
		has := bitsOf(batch.Has, b.Things)
		g.has = append(g.has, has)
		g.needs = append(g.needs, bitsOf(batch.Needs, b.Things))
		g.free -= has
	}
	return g
}

// canGo says whether the batch at a place is not gone and can have all it needs.
func (g *going) canGo(place int) bool {
	within := g.free + g.has[place]
	return !g.gone[place] && g.needs[place]&^within == 0
}

// leave lets the batch at a place, which is not gone, go; what it had is free then.
func (g *going) leave(place int) {
	g.gone[place] = true
	g.free += g.has[place]
}

// first is the first place whose batch can go; false, if none can.
func (g *going) first() (int, bool) {
	for place := range g.gone {
		if g.canGo(place) {
			return place, true
		}
	}
	return 0, false
}

// goers tells the places of those who go, always the first who can, as long as one comes.
func goers(b ShareBook) iter.Seq[int] {
	return func(yield func(int) bool) {
		g := startGoing(b)
		for {
			place, can := g.first()
			if !can {
				return
			}
			g.leave(place)
			if !yield(place) {
				return
			}
		}
	}
}

// ShareFits says whether all can end in an order: each can have all it needs when those ahead of it are gone.
func ShareFits(b ShareBook, order []string) bool {
	// As many names as batches, and none that is gone already: so each is there once.
	if !ShareBookOk(b) || len(order) != len(b.Batches) {
		return false
	}
	names := batchNames(b.Batches)
	g := startGoing(b)
	for _, name := range order {
		place := slices.Index(names, name)
		if place < 0 || !g.canGo(place) {
			return false
		}
		g.leave(place)
	}
	return true
}

// ShareOrder is an order in which all can end.
func ShareOrder(b ShareBook) ([]string, bool) {
	if !ShareBookOk(b) {
		return nil, false
	}
	var order []string
	for place := range goers(b) {
		order = append(order, b.Batches[place].Name)
		if len(order) == len(b.Batches) {
			break
		}
	}
	if len(order) < len(b.Batches) {
		return nil, false
	}
	return order, true
}

// ShareSafe says whether there is one.
func ShareSafe(b ShareBook) bool {
	_, safe := ShareOrder(b)
	return safe
}
