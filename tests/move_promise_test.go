package tests

import (
	"fmt"
	"slices"
	"testing"

	"loop.example/maltshare/impl"
)

// nobodyWaitsForEver is promise 1 of one book: it is safe, not stuck, and all go.
func nobodyWaitsForEver(t *testing.T, b impl.ShareBook) {
	t.Helper()
	if !impl.ShareSafe(b) || !someFits(b, allOrders(len(b.Batches))) {
		t.Fatalf("not safe: %q", b)
	}
	if impl.ShareStuck(b) {
		t.Fatalf("stuck: %q", b)
	}
	for there := len(b.Batches); there > 0; there-- {
		b = firstGoes(t, b)
		if len(b.Batches) != there-1 || !impl.ShareSafe(b) || impl.ShareStuck(b) {
			t.Fatalf("behind the first that could move: %q", b)
		}
	}
	if moves := impl.ShareMoves(b); len(moves) != 0 {
		t.Fatalf("all are gone, but %q can move: %q", moves, b)
	}
}

// firstGoes is the book behind the first of ShareMoves, who asked for all it had not and needed, was given it, and went.
func firstGoes(t *testing.T, b impl.ShareBook) impl.ShareBook {
	t.Helper()
	moves := impl.ShareMoves(b)
	if len(moves) == 0 {
		t.Fatalf("nobody can move: %q", b)
	}
	place := slices.IndexFunc(b.Batches, func(x impl.ShareBatch) bool { return x.Name == moves[0] })
	first := b.Batches[place]
	lacks := slices.DeleteFunc(slices.Clone(first.Needs), func(thing string) bool { return slices.Contains(first.Has, thing) })
	given, code := impl.ShareAsk(b, first.Name, lacks)
	if code != 0 || !slices.Equal(given.Batches[place].Has, first.Needs) {
		t.Fatalf("%q can move, but is not given %q: code %d: %q", first.Name, lacks, code, b)
	}
	after, code := impl.ShareLeave(given, first.Name)
	if code != 0 {
		t.Fatalf("%q does not go: code %d: %q", first.Name, code, given)
	}
	return after
}

// TestEveryBookThatIsLedTo is promise 1 at every book of a few things and names that the four of chapter 3 lead to.
func TestEveryBookThatIsLedTo(t *testing.T) {
	for _, size := range []struct{ things, batches int }{{0, 2}, {1, 4}, {2, 3}, {3, 2}, {3, 3}} {
		led := ledTo(list("keg", "tun", "vat")[:size.things], list("a", "b", "c", "d")[:size.batches])
		for _, b := range led {
			nobodyWaitsForEver(t, b)
		}
		// Of a book that is safe so is each that has less given: so all that are safe are led to.
		safe := 0
		smallBooks(size.things, size.batches, func(b impl.ShareBook) {
			if someFits(b, allOrders(size.batches)) {
				safe++
			}
		})
		full := len(slices.DeleteFunc(led, func(b impl.ShareBook) bool { return len(b.Batches) < size.batches }))
		if full != safe || safe == 0 {
			t.Errorf("%v: led to %d books, but %d are safe", size, full, safe)
		}
	}
}

// ledTo is every book that the four of chapter 3 lead to from these things alone, by batches of these names.
func ledTo(things, names []string) []impl.ShareBook {
	books := []impl.ShareBook{thingBook(things...)}
	seen := map[string]bool{fmt.Sprint(books[0]): true}
	for at := 0; at < len(books); at++ {
		for _, name := range names {
			for _, some := range subsets(things) {
				for _, word := range list("enter", "ask", "less", "leave") {
					after, _ := call{word, name, some}.do(books[at])
					if key := fmt.Sprint(after); !seen[key] {
						seen[key] = true
						books = append(books, after)
					}
				}
			}
		}
	}
	return books
}

// movesAsPromised holds the three of chapter 4 against its words and against promises 3, 6 and 7, and says what kind of book it is.
func movesAsPromised(t *testing.T, b impl.ShareBook) string {
	t.Helper()
	if told, want := movesOf(b), saidMovesOf(b); !slices.EqualFunc(told, want, slices.Equal) {
		t.Fatalf("who moves, and on whom each waits: %q, not %q: %q", told, want, b)
	}
	moves, stuck, safe := impl.ShareMoves(b), impl.ShareStuck(b), impl.ShareSafe(b)
	if stuck != saidStuck(b) {
		t.Fatalf("stuck is %v: %q", stuck, b)
	}
	for _, x := range b.Batches {
		waits := impl.ShareWaits(b, x.Name)
		if slices.Contains(moves, x.Name) != (len(waits) == 0) || slices.Contains(waits, x.Name) {
			t.Fatalf("%q are of moves, %q waits on %q: %q", moves, x.Name, waits, b)
		}
	}
	if stuck && (safe || someFits(b, allOrders(len(b.Batches)))) {
		t.Fatalf("stuck, but safe: %q", b)
	}
	for _, name := range moves {
		moverIsGiven(t, b, name)
	}
	return fmt.Sprintf("stuck %v, safe %v", stuck, safe)
}

// moverIsGiven says that one of ShareMoves is given all of its Needs, and any part of them.
func moverIsGiven(t *testing.T, b impl.ShareBook, name string) {
	t.Helper()
	for _, x := range b.Batches {
		if x.Name != name {
			continue
		}
		for _, some := range subsets(x.Needs) {
			if _, code := impl.ShareAsk(b, name, some); code != 0 {
				t.Fatalf("%q is of moves, but refused %q with %d: %q", name, some, code, b)
			}
		}
	}
}

// TestMovesOfAllSmallBooks is promises 3, 6 and 7 at every book of a few things and batches, safe or not.
func TestMovesOfAllSmallBooks(t *testing.T) {
	for _, size := range []struct{ things, batches int }{{0, 0}, {2, 0}, {0, 2}, {2, 1}, {2, 2}, {3, 3}, {2, 4}} {
		seen := map[string]int{}
		smallBooks(size.things, size.batches, func(b impl.ShareBook) {
			seen[movesAsPromised(t, b)]++
		})
		if size.things >= 2 && size.batches >= 2 && (seen["stuck true, safe false"] == 0 || seen["stuck false, safe true"] == 0) {
			t.Errorf("%v: none of a kind: %v", size, seen)
		}
	}
}

// TestMovesOfGreatBooks is promises 3, 6 and 7 at books of up to all things and batches that there may be.
func TestMovesOfGreatBooks(t *testing.T) {
	r := numbers(7)
	seen := map[string]int{}
	for range 2000 {
		seen[movesAsPromised(t, r.okBook(2+r.below(7), 2+r.below(4)))]++
	}
	for _, kind := range list("stuck true, safe false", "stuck false, safe false", "stuck false, safe true") {
		if seen[kind] < 50 {
			t.Errorf("too few of a kind: %v", seen)
		}
	}
	for _, b := range moveBooks() {
		if impl.ShareBookOk(b) {
			movesAsPromised(t, b)
		}
	}
}
