package tests

import (
	"slices"
	"testing"

	"loop.example/maltshare/impl"
)

// safeAsSaid holds the three of chapter 2 against all orders of a book that is ok, and says whether one fits.
func safeAsSaid(t *testing.T, b impl.ShareBook, orders [][]int) bool {
	t.Helper()
	var first []string
	some := false
	for _, places := range orders {
		fits, names := saidFits(b, places), namesAt(b, places)
		if impl.ShareFits(b, names) != fits {
			t.Fatalf("order %q fits: not %v: %q", names, fits, b)
		}
		// Who can go now still can when others are gone: so always taking the first who can
		// leads to the first of all orders that fit, by their places.
		if fits && !some {
			some, first = true, names
		}
	}
	order, safe := impl.ShareOrder(b)
	if safe != some || impl.ShareSafe(b) != some || !slices.Equal(order, first) {
		t.Fatalf("order %q, %v, not %q, %v: %q", order, safe, first, some, b)
	}
	if safe && !impl.ShareFits(b, order) {
		t.Fatalf("the order told does not fit: %q: %q", order, b)
	}
	return some
}

// TestSafeOfAllSmallBooks is promise 2 at every book of a few things and batches.
func TestSafeOfAllSmallBooks(t *testing.T) {
	for _, size := range []struct{ things, batches int }{{0, 0}, {2, 0}, {0, 2}, {2, 1}, {2, 2}, {3, 3}, {2, 4}} {
		orders := allOrders(size.batches)
		seen := map[bool]int{}
		smallBooks(size.things, size.batches, func(b impl.ShareBook) {
			seen[safeAsSaid(t, b, orders)]++
		})
		if seen[true] == 0 || seen[false] == 0 && size.things >= 2 && size.batches >= 2 {
			t.Errorf("%v: none of a kind: %v", size, seen)
		}
	}
}

// TestSafeOfGreatBooks is promise 2 at books of up to all things and batches that there may be.
func TestSafeOfGreatBooks(t *testing.T) {
	r := numbers(2)
	seen := map[bool]int{}
	for range 3000 {
		batches := 3 + r.below(3)
		seen[safeAsSaid(t, r.okBook(4+r.below(5), batches), allOrders(batches))]++
	}
	if seen[true] < 100 || seen[false] < 100 {
		t.Errorf("too few of a kind: %v", seen)
	}
	if safeAsSaid(t, fullBook(), allOrders(5)) {
		t.Error("five that have some and need all")
	}
}

func TestOrder(t *testing.T) {
	chain := impl.ShareBook{Things: list("a", "b", "c", "d", "e"), Batches: []impl.ShareBatch{
		batch("1", list("a"), list("a", "b")),
		batch("2", list("b"), list("b", "c")),
		batch("3", list("c"), list("c", "d")),
		batch("4", list("d"), list("d", "e")),
		batch("5", list("e"), list("e")),
	}}
	backToFirst := impl.ShareBook{Things: list("a", "b"), Batches: []impl.ShareBatch{
		batch("1", nil, list("a")),
		batch("2", nil, list("b")),
		batch("3", list("a"), list("a")),
		batch("4", list("b"), list("b")),
	}}
	for _, c := range []struct {
		what string
		b    impl.ShareBook
		want []string
		safe bool
	}{
		{"one frees the next", brewBook(), list("b", "ale", "dark"), true},
		{"a ring", ringBook(), nil, false},
		{"one can go, the others never", halfStuckBook(), nil, false},
		{"from the last to the first", chain, list("5", "4", "3", "2", "1"), true},
		{"the first again as soon as it can", backToFirst, list("3", "1", "4", "2"), true},
		{"nobody has anything", impl.ShareBook{Things: list("a"), Batches: []impl.ShareBatch{batch("x", nil, list("a")), batch("y", nil, list("a"))}}, list("x", "y"), true},
		{"one that needs nothing", impl.ShareBook{Batches: []impl.ShareBatch{batch("x", nil, nil)}}, list("x"), true},
		{"one that has all", impl.ShareBook{Things: list("a"), Batches: []impl.ShareBatch{batch("x", list("a"), list("a"))}}, list("x"), true},
		{"nobody", impl.ShareBook{}, nil, true},
		{"things alone", thingBook("a", "b"), nil, true},
	} {
		order, safe := impl.ShareOrder(c.b)
		if !slices.Equal(order, c.want) || safe != c.safe || impl.ShareSafe(c.b) != c.safe {
			t.Errorf("%s: %q, %v", c.what, order, safe)
		}
	}
}

func TestFits(t *testing.T) {
	for _, c := range []struct {
		what  string
		order []string
		want  bool
	}{
		{"fits", list("b", "ale", "dark"), true},
		{"the others do not", list("ale", "b", "dark"), false},
		{"the others do not", list("ale", "dark", "b"), false},
		{"the others do not", list("b", "dark", "ale"), false},
		{"the others do not", list("dark", "ale", "b"), false},
		{"the others do not", list("dark", "b", "ale"), false},
		{"lacks the last", list("b", "ale"), false},
		{"lacks one within", list("b", "dark"), false},
		{"lacks all but one", list("b"), false},
		{"lacks all", nil, false},
		{"one twice in place of another", list("b", "ale", "ale"), false},
		{"one twice in place of another", list("b", "b", "ale"), false},
		{"one twice, beside all", list("b", "ale", "dark", "dark"), false},
		{"one twice, beside all", list("b", "b", "ale", "dark"), false},
		{"one that is not there", list("b", "ale", "zz"), false},
		{"one that is not there", list("zz", "b", "ale"), false},
		{"one that is not there, beside all", list("b", "ale", "dark", "zz"), false},
		{"the empty text", list("b", "ale", ""), false},
		{"the empty text, beside all", list("", "b", "ale", "dark"), false},
		{"a thing", list("b", "ale", "keg"), false},
		{"a long one", slices.Repeat(list("b", "ale", "dark"), 1000), false},
	} {
		if impl.ShareFits(brewBook(), c.order) != c.want {
			t.Errorf("%s: %q: not %v", c.what, c.order, c.want)
		}
	}
	b := brewBook()
	b.Things = append(b.Things, "a")
	if impl.ShareFits(b, list("b", "ale", "dark")) || impl.ShareFits(b, nil) {
		t.Error("a book that is not ok")
	}
	if impl.ShareFits(thingBook("B"), nil) || impl.ShareFits(thingBook("B"), list()) {
		t.Error("a book that is not ok, with nobody there")
	}
	// Several orders may fit, not the one told alone.
	two := impl.ShareBook{Things: list("a"), Batches: []impl.ShareBatch{batch("x", nil, list("a")), batch("y", nil, list("a"))}}
	if !impl.ShareFits(two, list("x", "y")) || !impl.ShareFits(two, list("y", "x")) {
		t.Error("two that have nothing")
	}
}

func TestEmptyBook(t *testing.T) {
	for _, b := range []impl.ShareBook{{}, {Things: list()}, {Batches: []impl.ShareBatch{}}, {Things: list(), Batches: []impl.ShareBatch{}}} {
		order, safe := impl.ShareOrder(b)
		if !impl.ShareBookOk(b) || len(order) != 0 || !safe || !impl.ShareSafe(b) {
			t.Errorf("an empty book: %q, %v", order, safe)
		}
		if !impl.ShareFits(b, nil) || !impl.ShareFits(b, list()) || impl.ShareFits(b, list("")) || impl.ShareFits(b, list("a")) {
			t.Error("orders of an empty book")
		}
	}
}
