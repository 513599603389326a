package tests

import (
	"slices"
	"testing"

	"loop.example/maltshare/impl"
)

// asPromised holds a call of a book against chapter 3's words and against promises 3, 4 and 5, and is what it answered.
func asPromised(t *testing.T, b impl.ShareBook, c call) (impl.ShareBook, int) {
	t.Helper()
	after, code := c.do(b)
	wanted, want := c.said(b)
	if code != want || !sameBook(after, wanted) {
		t.Fatalf("%q of %q: code %d, not %d: %q, not %q", c, b, code, want, after, wanted)
	}
	if code == 0 {
		keptApart(t, b, after, c)
		keptSafe(t, b, after, c)
		if c.word == "ask" {
			given(t, after, c)
		}
	}
	if code == 5 || code == 6 {
		notNeedless(t, b, c, code)
	}
	return after, code
}

// keptApart says that the book behind a call is ok, and that all other batches are as they were.
func keptApart(t *testing.T, b, after impl.ShareBook, c call) {
	t.Helper()
	others := func(b impl.ShareBook) impl.ShareBook {
		named := func(x impl.ShareBatch) bool { return x.Name == c.name }
		return impl.ShareBook{Things: b.Things, Batches: slices.DeleteFunc(slices.Clone(b.Batches), named)}
	}
	if !impl.ShareBookOk(after) || !saidOk(after) || !sameBook(others(b), others(after)) {
		t.Fatalf("%q of %q: not ok, or others are not as they were: %q", c, b, after)
	}
}

// keptSafe says that the book behind a call is safe, if it was.
func keptSafe(t *testing.T, b, after impl.ShareBook, c call) {
	t.Helper()
	if someFits(b, allOrders(len(b.Batches))) && (!impl.ShareSafe(after) || !someFits(after, allOrders(len(after.Batches)))) {
		t.Fatalf("%q of %q: not safe any more: %q", c, b, after)
	}
}

// given says that all that was asked for is had by who asked, and by nobody else.
func given(t *testing.T, after impl.ShareBook, c call) {
	t.Helper()
	for _, thing := range c.names {
		for _, x := range after.Batches {
			if slices.Contains(x.Has, thing) != (x.Name == c.name) {
				t.Fatalf("%q: %q has %q, or has it not", c, x.Name, thing)
			}
		}
		if impl.ShareWho(after, thing) != c.name {
			t.Fatalf("%q: %q is had by %q", c, thing, impl.ShareWho(after, thing))
		}
	}
}

// notNeedless says that what was refused with 5 is had by somebody else, and that behind what was refused
// with 6 no order would fit, and that who is refused so could not have all they need at once.
func notNeedless(t *testing.T, b impl.ShareBook, c call, code int) {
	t.Helper()
	place := slices.IndexFunc(b.Batches, func(x impl.ShareBatch) bool { return x.Name == c.name })
	others := hadByOthers(b, place)
	if meets(c.names, others) != (code == 5) {
		t.Fatalf("%q of %q: code %d", c, b, code)
	}
	if code == 5 {
		return
	}
	would := copyBook(b)
	would.Batches[place].Has = append(would.Batches[place].Has, c.names...)
	if someFits(would, allOrders(len(would.Batches))) {
		t.Fatalf("%q of %q: refused with 6, but an order would fit", c, b)
	}
	if !meets(b.Batches[place].Needs, others) || slices.Contains(impl.ShareMoves(b), c.name) {
		t.Fatalf("%q of %q: refused with 6, but could have all it needs at once", c, b)
	}
}

// subsets is every list of some of all, in order.
func subsets(all []string) [][]string {
	lists := [][]string{nil}
	for _, name := range all {
		for _, some := range slices.Clone(lists) {
			lists = append(lists, append(slices.Clone(some), name))
		}
	}
	return lists
}

// TestAskingOfAllSmallBooks is promises 3, 4 and 5 at every book of a few things and batches, safe or not.
func TestAskingOfAllSmallBooks(t *testing.T) {
	seen := map[string][7]int{}
	for _, size := range []struct{ things, batches int }{{0, 0}, {2, 0}, {0, 2}, {2, 1}, {2, 2}, {3, 2}, {2, 4}} {
		smallBooks(size.things, size.batches, func(b impl.ShareBook) {
			for _, name := range list("a", "b", "bb", "d") {
				for _, names := range subsets(b.Things) {
					for _, word := range list("enter", "ask", "less", "leave") {
						_, code := asPromised(t, b, call{word, name, names})
						codes := seen[word]
						codes[code]++
						seen[word] = codes
					}
				}
			}
		})
	}
	for _, c := range []struct {
		word  string
		codes []int
	}{{"enter", []int{0, 3}}, {"ask", []int{0, 2, 3, 5, 6}}, {"less", []int{0, 2, 3}}, {"leave", []int{0, 3}}} {
		for _, code := range c.codes {
			if seen[c.word][code] == 0 {
				t.Errorf("%s: code %d never came", c.word, code)
			}
		}
	}
}

// wildCall is a call, most often of a batch of the book and of things that it needs, now and then of anything.
func (r *numbers) wildCall(b impl.ShareBook) call {
	c := call{word: list("enter", "ask", "ask", "ask", "less", "leave")[r.below(6)], name: list("a", "b", "c", "d", "e", "f", "0", "bb", "", "A", "123456789")[r.below(11)]}
	from := b.Things
	if len(b.Batches) > 0 && r.below(8) > 0 && c.word != "enter" {
		x := b.Batches[r.below(len(b.Batches))]
		c.name, from = x.Name, x.Needs
	}
	c.names = r.picked(from, 2)
	switch r.below(12) {
	case 0:
		c.names = append(c.names, list("", "z", "keg", "a", "\xff")[r.below(5)])
	case 1:
		slices.Reverse(c.names)
	case 2:
		c.names = append(c.names, c.names...)
	}
	return c
}

// TestAskingOfGreatBooks is promises 3, 4 and 5 at books of up to all things and batches, ok or not, and at calls of all kinds.
func TestAskingOfGreatBooks(t *testing.T) {
	r := numbers(3)
	var seen [7]int
	for i := range 12000 {
		b := r.okBook(r.below(9), r.below(6))
		if i%4 == 0 {
			b = r.wildBook()
		}
		_, code := asPromised(t, b, r.wildCall(b))
		seen[code]++
	}
	for code, n := range seen {
		if n < 40 {
			t.Errorf("code %d came only %d times", code, n)
		}
	}
}

// TestWalks is promises 1, 3, 4 and 5 on the way from books with things alone from call to call.
func TestWalks(t *testing.T) {
	r := numbers(1)
	var seen [7]int
	for range 200 {
		b := impl.ShareBook{Things: list("-", "0", "a", "aa", "b", "keg", "tun", "vat")[:2+r.below(7)]}
		for range 120 {
			c := r.wildCall(b)
			// Fewer go and need less than ask, so that the book fills.
			if (c.word == "leave" || c.word == "less") && r.below(3) > 0 {
				continue
			}
			after, code := asPromised(t, b, c)
			seen[code]++
			nobodyWaitsForEver(t, after)
			b = after
		}
	}
	for code, n := range seen {
		if code != 1 && n < 10 {
			t.Errorf("code %d came only %d times", code, n)
		}
	}
}
