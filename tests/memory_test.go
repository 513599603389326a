package tests

import (
	"reflect"
	"slices"
	"testing"

	"loop.example/maltshare/impl"
)

// behind is what stands in the spare room of a list that is handed in.
const behind = "behind"

// roomy is the same list with spare room, in which something stands.
func roomy(names []string) []string {
	return append(slices.Clone(names), behind, behind, behind)[:len(names)]
}

// roomyBook is the same book, each list of it with spare room.
func roomyBook(b impl.ShareBook) impl.ShareBook {
	c := copyBook(b)
	c.Things = roomy(c.Things)
	for i := range c.Batches {
		c.Batches[i].Has, c.Batches[i].Needs = roomy(c.Batches[i].Has), roomy(c.Batches[i].Needs)
	}
	spare := batch(behind, list(behind), list(behind))
	c.Batches = append(c.Batches, spare, spare)[:len(c.Batches)]
	return c
}

// whole is a book with all that stands in the spare room of its lists, in memory of its own.
func whole(b impl.ShareBook) impl.ShareBook {
	c := impl.ShareBook{Things: slices.Clone(b.Things[:cap(b.Things)]), Batches: slices.Clone(b.Batches[:cap(b.Batches)])}
	for i, x := range c.Batches {
		c.Batches[i].Has, c.Batches[i].Needs = slices.Clone(x.Has[:cap(x.Has)]), slices.Clone(x.Needs[:cap(x.Needs)])
	}
	return c
}

// unsound is a book that is not ok at its very end.
func unsound() impl.ShareBook {
	b := brewBook()
	b.Batches[2].Has = list("keg")
	return b
}

func TestNoArgumentIsChanged(t *testing.T) {
	for what, from := range map[string]impl.ShareBook{"brew": brewBook(), "ring": ringBook(), "full": fullBook(), "not ok": unsound(), "empty": {}} {
		b, order := roomyBook(from), roomy(list("b", "ale", "dark"))
		before, orderBefore := whole(b), slices.Clone(order[:cap(order)])
		impl.ShareBookOk(b)
		impl.ShareWho(b, "keg")
		impl.ShareFits(b, order)
		told, _ := impl.ShareOrder(b)
		impl.ShareSafe(b)
		told = told[:cap(told)]
		for i := range told {
			told[i] = "written"
		}
		if !reflect.DeepEqual(whole(b), before) || !slices.Equal(order[:cap(order)], orderBefore) {
			t.Errorf("%s: an argument is changed, or shares memory with an answer", what)
		}
	}
}

func TestNothingIsKept(t *testing.T) {
	b := brewBook()
	one, _ := impl.ShareOrder(b)
	two, _ := impl.ShareOrder(b)
	for i := range one {
		one[i] = "written"
	}
	three, _ := impl.ShareOrder(b)
	want := list("b", "ale", "dark")
	if !slices.Equal(two, want) || !slices.Equal(three, want) {
		t.Errorf("answers share memory: %q, %q", two, three)
	}
	impl.ShareOrder(ringBook())
	if !impl.ShareSafe(b) || impl.ShareSafe(ringBook()) || impl.ShareWho(b, "vat") != "" {
		t.Error("one call is seen in another")
	}
}

func TestNilAndEmptyAreAlike(t *testing.T) {
	for what, from := range map[string]impl.ShareBook{
		"brew": brewBook(), "ring": ringBook(), "not ok": unsound(), "empty": {},
		"needs nothing": {Batches: []impl.ShareBatch{batch("x", nil, nil)}},
	} {
		b := copyBook(from)
		if len(b.Things) == 0 {
			b.Things = list()
		}
		if len(b.Batches) == 0 {
			b.Batches = []impl.ShareBatch{}
		}
		for i := range b.Batches {
			b.Batches[i].Has = append([]string{}, b.Batches[i].Has...)
			b.Batches[i].Needs = append([]string{}, b.Batches[i].Needs...)
		}
		nilOrder, nilSafe := impl.ShareOrder(from)
		order, safe := impl.ShareOrder(b)
		if impl.ShareBookOk(b) != impl.ShareBookOk(from) || safe != nilSafe || !slices.Equal(order, nilOrder) {
			t.Errorf("%s: nil and empty lists differ", what)
		}
		if impl.ShareWho(b, "keg") != impl.ShareWho(from, "keg") || impl.ShareFits(b, list()) != impl.ShareFits(from, nil) {
			t.Errorf("%s: nil and empty lists differ", what)
		}
	}
}
