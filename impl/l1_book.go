// Package impl: who may have what now, so that nobody waits for ever.
package impl

import "slices"

// Limits of books.
const (
	ShareMaxName    = 8
	ShareMaxThings  = 8
	ShareMaxBatches = 5
)

// ShareBatch is somebody who shares: what they have, and what they may yet need.
type ShareBatch struct {
	Name  string
	Has   []string
	Needs []string
}

// ShareBook is things, and those who share them.
type ShareBook struct {
	Things  []string
	Batches []ShareBatch
}

// nameList is a list of names; Things, Needs, Has and the batches' own names are asked alike.
type nameList []string

// ascending says whether each name comes behind the one ahead of it.
func (l nameList) ascending() bool {
	for i := 1; i < len(l); i++ {
		if l[i-1] >= l[i] {
			return false
		}
	}
	return true
}

// areNames says whether each is a name.
func (l nameList) areNames() bool {
	for _, name := range l {
		if !isName(name) {
			return false
		}
	}
	return true
}

// isPartOf says whether each is one of all.
func (l nameList) isPartOf(all nameList) bool {
	for _, name := range l {
		if !slices.Contains(all, name) {
			return false
		}
	}
	return true
}

// isName says whether a text is a name.
func isName(text string) bool {
	// The size is asked first, so that a long text is not gone through.
	if len(text) < 1 || len(text) > ShareMaxName {
		return false
	}
	// Every rune of a name is one byte; bytes that are no rune come as utf8.RuneError, which is none of a name's.
	for _, r := range text {
		if !isNameRune(r) {
			return false
		}
	}
	return true
}

// isNameRune says whether a rune may stand in a name.
func isNameRune(r rune) bool {
	return 'a' <= r && r <= 'z' || '0' <= r && r <= '9' || r == '-'
}

// batchNames is the names of batches, by their places.
func batchNames(batches []ShareBatch) nameList {
	names := make(nameList, 0, len(batches))
	for _, batch := range batches {
		names = append(names, batch.Name)
	}
	return names
}

// holders is, by thing, the place of the batch that has it; false, if one thing is had twice.
func holders(batches []ShareBatch) (map[string]int, bool) {
	places := map[string]int{}
	for place, batch := range batches {
		for _, thing := range batch.Has {
			if _, had := places[thing]; had {
				return nil, false
			}
			places[thing] = place
		}
	}
	return places, true
}

// thingsOk says whether Things are as a book's must be.
func thingsOk(things nameList) bool {
	return len(things) <= ShareMaxThings && things.areNames() && things.ascending()
}

// batchOk says whether what a batch has and needs is as it must be in a book of these things.
func batchOk(batch ShareBatch, things nameList) bool {
	needs, has := nameList(batch.Needs), nameList(batch.Has)
	return needs.isPartOf(things) && needs.ascending() && has.isPartOf(needs) && has.ascending()
}

// ShareBookOk says whether a book is ok.
func ShareBookOk(b ShareBook) bool {
	if !thingsOk(b.Things) || len(b.Batches) > ShareMaxBatches {
		return false
	}
	names := batchNames(b.Batches)
	if !names.areNames() || !names.ascending() {
		return false
	}
	for _, batch := range b.Batches {
		if !batchOk(batch, b.Things) {
			return false
		}
	}
	_, once := holders(b.Batches)
	return once
}

// ShareWho is who has a thing.
func ShareWho(b ShareBook, thing string) string {
	if !ShareBookOk(b) {
		return ""
	}
	places, _ := holders(b.Batches)
	place, had := places[thing]
	if !had {
		return ""
	}
	return b.Batches[place].Name
}
