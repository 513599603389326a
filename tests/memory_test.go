package tests

import (
	"reflect"
	"slices"
	"testing"

	"loop.example/maltshare/impl"
)

// behind is what stands in the spare room of a list that is handed in.
const behind = "behind"

// roomy is the same list with spare room, in which something stands.
func roomy(names []string) []string {
	return append(slices.Clone(names), behind, behind, behind)[:len(names)]
}

// roomyBook is the same book, each list of it with spare room.
func roomyBook(b impl.ShareBook) impl.ShareBook {
	c := copyBook(b)
	c.Things = roomy(c.Things)
	for i := range c.Batches {
		c.Batches[i].Has, c.Batches[i].Needs = roomy(c.Batches[i].Has), roomy(c.Batches[i].Needs)
	}
	spare := batch(behind, list(behind), list(behind))
	c.Batches = append(c.Batches, spare, spare)[:len(c.Batches)]
	return c
}

// whole is a book with all that stands in the spare room of its lists, in memory of its own.
func whole(b impl.ShareBook) impl.ShareBook {
	c := impl.ShareBook{Things: slices.Clone(b.Things[:cap(b.Things)]), Batches: slices.Clone(b.Batches[:cap(b.Batches)])}
	for i, x := range c.Batches {
		c.Batches[i].Has, c.Batches[i].Needs = slices.Clone(x.Has[:cap(x.Has)]), slices.Clone(x.Needs[:cap(x.Needs)])
	}
	return c
}

// emptied is the same list, empty where it was nil.
func emptied(names []string) []string {
	return append([]string{}, names...)
}

// emptiedBook is the same book, each list of it empty where it was nil.
func emptiedBook(b impl.ShareBook) impl.ShareBook {
	c := impl.ShareBook{Things: emptied(b.Things), Batches: append([]impl.ShareBatch{}, b.Batches...)}
	for i, x := range c.Batches {
		c.Batches[i].Has, c.Batches[i].Needs = emptied(x.Has), emptied(x.Needs)
	}
	return c
}

// unsound is a book that is not ok at its very end.
func unsound() impl.ShareBook {
	b := brewBook()
	b.Batches[2].Has = list("keg")
	return b
}

func TestNoArgumentIsChanged(t *testing.T) {
	for what, from := range map[string]impl.ShareBook{"brew": brewBook(), "ring": ringBook(), "full": fullBook(), "not ok": unsound(), "empty": {}} {
		b, order := roomyBook(from), roomy(list("b", "ale", "dark"))
		before, orderBefore := whole(b), slices.Clone(order[:cap(order)])
		impl.ShareBookOk(b)
		impl.ShareWho(b, "keg")
		impl.ShareFits(b, order)
		told, _ := impl.ShareOrder(b)
		impl.ShareSafe(b)
		told = told[:cap(told)]
		for i := range told {
			told[i] = "written"
		}
		if !reflect.DeepEqual(whole(b), before) || !slices.Equal(order[:cap(order)], orderBefore) {
			t.Errorf("%s: an argument is changed, or shares memory with an answer", what)
		}
	}
}

func TestNothingIsKept(t *testing.T) {
	b := brewBook()
	one, _ := impl.ShareOrder(b)
	two, _ := impl.ShareOrder(b)
	for i := range one {
		one[i] = "written"
	}
	three, _ := impl.ShareOrder(b)
	want := list("b", "ale", "dark")
	if !slices.Equal(two, want) || !slices.Equal(three, want) {
		t.Errorf("answers share memory: %q, %q", two, three)
	}
	impl.ShareOrder(ringBook())
	if !impl.ShareSafe(b) || impl.ShareSafe(ringBook()) || impl.ShareWho(b, "vat") != "" {
		t.Error("one call is seen in another")
	}
}

func TestNilAndEmptyAreAlike(t *testing.T) {
	for what, from := range map[string]impl.ShareBook{
		"brew": brewBook(), "ring": ringBook(), "not ok": unsound(), "empty": {},
		"needs nothing": {Batches: []impl.ShareBatch{batch("x", nil, nil)}},
	} {
		b := emptiedBook(from)
		nilOrder, nilSafe := impl.ShareOrder(from)
		order, safe := impl.ShareOrder(b)
		if impl.ShareBookOk(b) != impl.ShareBookOk(from) || safe != nilSafe || !slices.Equal(order, nilOrder) {
			t.Errorf("%s: nil and empty lists differ", what)
		}
		if impl.ShareWho(b, "keg") != impl.ShareWho(from, "keg") || impl.ShareFits(b, list()) != impl.ShareFits(from, nil) {
			t.Errorf("%s: nil and empty lists differ", what)
		}
	}
}

// askCalls is calls of chapter 3 of a book like brewBook, with every code but 4 and 1.
func askCalls() []call {
	return []call{
		{"enter", "c", list("keg", "tun")}, {"enter", "zz", nil}, {"enter", "a", list("keg", "pipe", "tun", "vat")},
		{"enter", "b", list("keg")}, {"enter", "c", list("tun", "keg")}, {"enter", "", nil},
		{"ask", "dark", list("pipe")}, {"ask", "b", list("tun", "vat")}, {"ask", "ale", list("keg")}, {"ask", "b", nil},
		{"ask", "dark", list("vat")}, {"ask", "ale", list("tun")}, {"ask", "ale", list("zz")}, {"ask", "c", nil},
		{"less", "dark", list("keg", "vat")}, {"less", "ale", list("keg", "tun")}, {"less", "ale", list("tun")}, {"less", "b", nil},
		{"less", "b", list("keg")}, {"less", "c", nil},
		{"leave", "ale", nil}, {"leave", "b", nil}, {"leave", "dark", nil}, {"leave", "c", nil},
	}
}

// namesOf is every list of names of a book at its full room, those of batches in the spare room of Batches, too.
func namesOf(b impl.ShareBook) [][]string {
	lists := [][]string{b.Things[:cap(b.Things)]}
	for _, x := range b.Batches[:cap(b.Batches)] {
		lists = append(lists, x.Has[:cap(x.Has)], x.Needs[:cap(x.Needs)])
	}
	return lists
}

// overwrite writes into all room of a book that was answered, and says whether no two of its lists share any.
func overwrite(b impl.ShareBook) bool {
	lists := namesOf(b)
	for i, names := range lists {
		for j := range names {
			names[j] = string(rune('A' + i))
		}
	}
	apart := true
	for i, names := range lists {
		for _, name := range names {
			apart = apart && name == string(rune('A'+i))
		}
	}
	all := b.Batches[:cap(b.Batches)]
	for i := range all {
		all[i] = batch("written", nil, nil)
	}
	return apart
}

func TestAskingChangesNoArgument(t *testing.T) {
	for what, from := range map[string]impl.ShareBook{
		"brew": brewBook(), "ring": ringBook(), "five": fiveBook(), "full": fullBook(), "not ok": unsound(), "empty": {}, "things alone": thingBook("keg", "tun"),
	} {
		for _, c := range askCalls() {
			b := roomyBook(from)
			c.names = roomy(c.names)
			before, namesBefore := whole(b), slices.Clone(c.names[:cap(c.names)])
			after, code := c.do(b)
			if !reflect.DeepEqual(whole(b), before) || !slices.Equal(c.names[:cap(c.names)], namesBefore) {
				t.Errorf("%s: %q: an argument is changed", what, c)
			}
			if !overwrite(after) {
				t.Errorf("%s: %q: code %d: two lists of the answer share memory", what, c, code)
			}
			if !reflect.DeepEqual(whole(b), before) || !slices.Equal(c.names[:cap(c.names)], namesBefore) {
				t.Errorf("%s: %q: code %d: the answer shares memory with an argument", what, c, code)
			}
		}
	}
}

// TestAskingOfSharedLists is calls whose arguments share memory with each other: the answer's lists do not.
func TestAskingOfSharedLists(t *testing.T) {
	all := list("keg", "tun", "vat")
	for _, c := range []call{
		{"enter", "b", all}, {"enter", "b", all[1:]}, {"enter", "b", all[:0]}, {"enter", "ale", all},
		{"ask", "ale", all}, {"ask", "ale", all[:2]}, {"ask", "ale", all[:0]}, {"ask", "c", all}, {"ask", "c", all[1:]},
		{"less", "ale", all}, {"less", "ale", all[:1]}, {"less", "c", all[2:]}, {"less", "ale", all[:0]}, {"less", "c", all},
		{"leave", "ale", nil}, {"leave", "b", nil},
	} {
		b := impl.ShareBook{Things: all, Batches: []impl.ShareBatch{batch("ale", all[:2], all), batch("c", all[2:], all[2:])}}
		wanted, want := c.said(copyBook(b))
		after, code := c.do(b)
		if code != want || !sameBook(after, wanted) {
			t.Errorf("%q: code %d, not %d: %q", c, code, want, after)
		}
		if !overwrite(after) || !slices.Equal(all, list("keg", "tun", "vat")) {
			t.Fatalf("%q: the answer shares memory", c)
		}
	}
}

func TestAskingKeepsNothing(t *testing.T) {
	for _, c := range askCalls() {
		one, code := c.do(brewBook())
		wanted := copyBook(one)
		overwrite(one)
		for _, other := range askCalls() {
			other.do(brewBook())
		}
		if two, again := c.do(brewBook()); again != code || !sameBook(two, wanted) {
			t.Errorf("%q: another answer the second time: %d, %q", c, again, two)
		}
	}
}

func TestAskingNilAndEmptyAlike(t *testing.T) {
	for what, from := range map[string]impl.ShareBook{
		"brew": brewBook(), "ring": ringBook(), "not ok": unsound(), "empty": {}, "things alone": thingBook("keg"),
		"batches alone": {Batches: []impl.ShareBatch{batch("ale", nil, nil), batch("b", nil, nil)}},
	} {
		for _, c := range askCalls() {
			wanted, want := c.do(copyBook(from))
			c.names = emptied(c.names)
			if after, code := c.do(emptiedBook(from)); code != want || !sameBook(after, wanted) {
				t.Errorf("%s: %q: nil and empty lists differ: %d, %d", what, c, code, want)
			}
		}
	}
}

func TestMovesChangeNoArgument(t *testing.T) {
	for _, from := range moveBooks() {
		b := roomyBook(from)
		before := whole(b)
		told := movesOf(b)
		impl.ShareStuck(b)
		if !reflect.DeepEqual(whole(b), before) {
			t.Errorf("an argument is changed: %q", from)
		}
		for _, names := range told {
			names = names[:cap(names)]
			for i := range names {
				names[i] = "written"
			}
		}
		if !reflect.DeepEqual(whole(b), before) {
			t.Errorf("an answer shares memory with an argument: %q", from)
		}
	}
}

func TestMovesKeepNothing(t *testing.T) {
	for _, from := range moveBooks() {
		one, two := movesOf(from), movesOf(from)
		for _, names := range one {
			clear(names[:cap(names)])
		}
		for _, other := range moveBooks() {
			movesOf(other)
			impl.ShareStuck(other)
		}
		want := saidMovesOf(from)
		if three := movesOf(from); !slices.EqualFunc(two, want, slices.Equal) || !slices.EqualFunc(three, want, slices.Equal) {
			t.Errorf("one call is seen in another: %q, %q, not %q", two, three, want)
		}
	}
}

func TestMovesNilAndEmptyAlike(t *testing.T) {
	needNothing := impl.ShareBook{Batches: []impl.ShareBatch{batch("x", nil, nil), batch("y", nil, nil)}}
	for _, from := range append(moveBooks(), needNothing) {
		b := emptiedBook(from)
		if !slices.EqualFunc(movesOf(b), movesOf(from), slices.Equal) || impl.ShareStuck(b) != impl.ShareStuck(from) {
			t.Errorf("nil and empty lists differ: %q", from)
		}
		if len(impl.ShareWaits(b, "")) != 0 || len(impl.ShareWaits(from, "")) != 0 {
			t.Errorf("the empty text waits: %q", from)
		}
	}
}

// TestMovesOfSharedLists is books whose lists share memory with each other.
func TestMovesOfSharedLists(t *testing.T) {
	all := list("keg", "tun", "vat")
	b := impl.ShareBook{Things: all, Batches: []impl.ShareBatch{batch("keg", all[:1], all), batch("tun", all[1:2], all[1:]), batch("vat", all[2:], all[2:])}}
	want := [][]string{list("vat"), list("tun", "vat"), list("vat"), nil}
	if told := movesOf(b); !slices.EqualFunc(told, want, slices.Equal) || impl.ShareStuck(b) {
		t.Errorf("%q, not %q", told, want)
	}
}
