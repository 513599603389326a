package tests

import (
	"runtime"
	"slices"
	"sync"
	"testing"
	"testing/synctest"

	"loop.example/maltshare/impl"
)

// starBook is four who wait on the one amid them.
func starBook() impl.ShareBook {
	all := list("a", "b", "c", "d")
	return impl.ShareBook{Things: all, Batches: []impl.ShareBatch{
		batch("1", nil, list("a")), batch("2", nil, list("b", "c")), batch("3", all, all), batch("4", nil, list("a", "d")), batch("5", nil, list("d")),
	}}
}

// ownBook is five who each have all they need, and one thing is left.
func ownBook() impl.ShareBook {
	return impl.ShareBook{Things: list("a", "b", "c", "d", "e", "f"), Batches: []impl.ShareBatch{
		batch("1", list("a"), list("a")), batch("2", list("b"), list("b")), batch("3", list("c"), list("c")), batch("4", list("d"), list("d")), batch("5", list("e"), list("e")),
	}}
}

func TestMoves(t *testing.T) {
	mixed := impl.ShareBook{Things: list("a", "b", "c"), Batches: []impl.ShareBatch{
		batch("1", nil, list("a", "c")), batch("2", list("a"), list("a", "c")), batch("3", nil, list("a")), batch("4", list("b"), list("b")), batch("5", nil, list("b")),
	}}
	restNothing := ringBook()
	restNothing.Batches = append(restNothing.Batches, batch("e", nil, nil))
	one := func(has, needs []string) impl.ShareBook {
		return impl.ShareBook{Things: list("a", "b"), Batches: []impl.ShareBatch{batch("x", has, needs)}}
	}
	for _, c := range []struct {
		what string
		b    impl.ShareBook
		want []string
	}{
		{"none: each waits on the next", ringBook(), nil},
		{"none: five that have some and need all", fullBook(), nil},
		{"one", brewBook(), list("b")},
		{"one, amid those who wait on it", starBook(), list("3")},
		{"one, beside a ring", halfStuckBook(), list("e")},
		{"one that needs nothing, beside a ring", restNothing, list("e")},
		{"some", mixed, list("2", "4")},
		{"some, the last among them", fiveBook(), list("b", "e", "f")},
		{"all: each has its own", ownBook(), list("1", "2", "3", "4", "5")},
		{"all: nobody has what they all need", impl.ShareBook{Things: list("a"), Batches: []impl.ShareBatch{batch("x", nil, list("a")), batch("y", nil, list("a"))}}, list("x", "y")},
		{"all: nobody needs anything", impl.ShareBook{Batches: []impl.ShareBatch{batch("x", nil, nil), batch("y", nil, nil)}}, list("x", "y")},
		{"one alone that needs nothing", one(nil, nil), list("x")},
		{"one alone that has nothing and needs all", one(nil, list("a", "b")), list("x")},
		{"one alone that has some of its needs", one(list("b"), list("a", "b")), list("x")},
		{"one alone that has all", one(list("a", "b"), list("a", "b")), list("x")},
		{"nobody, and no thing", impl.ShareBook{}, nil},
		{"nobody", thingBook("a", "b"), nil},
		{"not ok", unsound(), nil},
		{"not ok: six, of whom some could", sixBook(), nil},
		{"not ok: who needs nothing has no name", impl.ShareBook{Batches: []impl.ShareBatch{batch("", nil, nil)}}, nil},
		{"not ok: things, and nobody there", thingBook("b", "a"), nil},
	} {
		if moves := impl.ShareMoves(c.b); !slices.Equal(moves, c.want) {
			t.Errorf("%s: %q, not %q", c.what, moves, c.want)
		}
	}
}

func TestStuck(t *testing.T) {
	two := impl.ShareBook{Things: list("a", "b"), Batches: []impl.ShareBatch{
		batch("x", list("a"), list("a", "b")), batch("y", list("b"), list("a", "b")),
	}}
	notOk := copyBook(two)
	notOk.Things = append(notOk.Things, "a")
	for _, c := range []struct {
		what string
		b    impl.ShareBook
		want bool
	}{
		{"nobody, and no thing", impl.ShareBook{}, false},
		{"nobody", thingBook("a", "b"), false},
		{"one that needs nothing", impl.ShareBook{Batches: []impl.ShareBatch{batch("x", nil, nil)}}, false},
		{"one alone that has not all", impl.ShareBook{Things: list("a", "b"), Batches: []impl.ShareBatch{batch("x", list("a"), list("a", "b"))}}, false},
		{"one can move", brewBook(), false},
		{"one can move, amid those who wait on it", starBook(), false},
		{"one can move, though the others never", halfStuckBook(), false},
		{"all can move", ownBook(), false},
		{"two that have what the other needs", two, true},
		{"a ring of three", ringBook(), true},
		{"five that have some and need all", fullBook(), true},
		{"not ok: two that have what the other needs", notOk, false},
		{"not ok", unsound(), false},
		{"not ok: six", sixBook(), false},
		{"not ok: things, and nobody there", thingBook("b", "a"), false},
	} {
		if impl.ShareStuck(c.b) != c.want {
			t.Errorf("%s: not %v", c.what, c.want)
		}
	}
}

func TestWaits(t *testing.T) {
	full := list("batch-9v", "batch-9w", "batch-9x", "batch-9y", "batch-9z")
	for _, c := range []struct {
		what string
		b    impl.ShareBook
		name string
		want []string
	}{
		{"on the next", brewBook(), "ale", list("b")},
		{"on nobody: what it needs is free", brewBook(), "b", nil},
		{"on who has one of its needs", brewBook(), "dark", list("ale")},
		{"in a ring", ringBook(), "ale", list("b")},
		{"in a ring", ringBook(), "b", list("dark")},
		{"in a ring", ringBook(), "dark", list("ale")},
		{"on all but itself, the first", fullBook(), full[0], full[1:]},
		{"on all but itself, amid them", fullBook(), full[2], list(full[0], full[1], full[3], full[4])},
		{"on all but itself, the last", fullBook(), full[4], full[:4]},
		{"on one that has two of its needs: once", starBook(), "2", list("3")},
		{"has all, and others wait on it", starBook(), "3", nil},
		{"not on who needs the same and has it not", starBook(), "5", list("3")},
		{"has all it needs", ownBook(), "3", nil},
		{"needs nothing", fiveBook(), "f", nil},
		{"on two of four", fiveBook(), "dark", list("ale", "e")},
		{"nobody of this name", fullBook(), "batch-9u", nil},
		{"the beginning of a name", brewBook(), "al", nil},
		{"a longer one", brewBook(), "ales", nil},
		{"a thing", brewBook(), "keg", nil},
		{"the empty text", ringBook(), "", nil},
		{"no name", ringBook(), "ALE", nil},
		{"no name", ringBook(), "\xff", nil},
		{"nobody there", thingBook("keg"), "ale", nil},
		{"nobody there, and no thing", impl.ShareBook{}, "", nil},
		{"not ok", unsound(), "ale", nil},
		{"not ok", unsound(), "dark", nil},
		{"not ok: six", sixBook(), "ale", nil},
		{"not ok: who waits has no name", impl.ShareBook{Things: list("a"), Batches: []impl.ShareBatch{batch("", nil, list("a")), batch("x", list("a"), list("a"))}}, "", nil},
	} {
		if waits := impl.ShareWaits(c.b, c.name); !slices.Equal(waits, c.want) {
			t.Errorf("%s: %q: %q, not %q", c.what, c.name, waits, c.want)
		}
	}
}

// moveBooks is books of which none, one, some or all can move, and one that is not ok.
func moveBooks() []impl.ShareBook {
	return []impl.ShareBook{brewBook(), ringBook(), halfStuckBook(), starBook(), ownBook(), fiveBook(), fullBook(), unsound(), thingBook("keg"), {}}
}

// movesOf is all that chapter 4 answers of a book: who moves, and of each place on whom it waits.
func movesOf(b impl.ShareBook) [][]string {
	told := [][]string{impl.ShareMoves(b)}
	for _, x := range b.Batches {
		told = append(told, impl.ShareWaits(b, x.Name))
	}
	return told
}

// TestMovesHoweverTheyRun asks the same again and again, by many at once, on one and on more processors.
func TestMovesHoweverTheyRun(t *testing.T) {
	defer runtime.GOMAXPROCS(runtime.GOMAXPROCS(0))
	books := moveBooks()
	var wanted [][][]string
	for _, b := range books {
		wanted = append(wanted, saidMovesOf(b))
	}
	for _, processors := range []int{1, 2, 8} {
		runtime.GOMAXPROCS(processors)
		var asking sync.WaitGroup
		for range 8 {
			asking.Go(func() {
				for i := range 200 * len(books) {
					b, want := books[i%len(books)], wanted[i%len(books)]
					told := movesOf(b)
					if !slices.EqualFunc(told, want, slices.Equal) || impl.ShareStuck(b) != saidStuck(b) {
						t.Errorf("on %d: %q, not %q: %q", processors, told, want, b)
						return
					}
				}
			})
		}
		asking.Wait()
	}
}

// TestMovesLeaveNobodyRunning fails by itself, if a goroutine that a call began never ends.
func TestMovesLeaveNobodyRunning(t *testing.T) {
	for _, b := range moveBooks() {
		synctest.Test(t, func(t *testing.T) {
			movesOf(b)
			impl.ShareStuck(b)
		})
	}
}
