package tests

import (
	"slices"
	"strings"
	"testing"

	"loop.example/maltshare/impl"
)

// refusedBook says that a book is not ok, and that every function answers so.
func refusedBook(t *testing.T, what string, b impl.ShareBook) {
	t.Helper()
	if impl.ShareBookOk(b) {
		t.Errorf("%q: ok", what)
	}
	for _, x := range b.Batches {
		for _, thing := range x.Has {
			if who := impl.ShareWho(b, thing); who != "" {
				t.Errorf("%q: %q has %q", what, who, thing)
			}
		}
	}
	order, safe := impl.ShareOrder(b)
	if len(order) != 0 || safe || impl.ShareSafe(b) {
		t.Errorf("%q: order %q, %v", what, order, safe)
	}
	for _, places := range allOrders(min(len(b.Batches), 3)) {
		if impl.ShareFits(b, namesAt(b, places)) {
			t.Errorf("%q: %v fits", what, places)
		}
	}
	for _, names := range movesOf(b) {
		if len(names) != 0 || impl.ShareStuck(b) {
			t.Errorf("%q: moves, is stuck or waits: %q", what, names)
		}
	}
}

// thingBook is a book with these things alone.
func thingBook(things ...string) impl.ShareBook {
	return impl.ShareBook{Things: things}
}

func TestBookOk(t *testing.T) {
	for what, b := range map[string]impl.ShareBook{
		"brew": brewBook(), "ring": ringBook(), "full": fullBook(),
		"nothing":                   {},
		"things alone":              thingBook("a", "b"),
		"batches alone":             {Batches: []impl.ShareBatch{batch("a", nil, nil), batch("b", nil, nil)}},
		"byte by byte":              thingBook("-", "0", "9", "a", "z"),
		"the beginning comes first": thingBook("a", "a-", "a0", "aa", "ab", "b"),
		"one name for both":         {Things: list("a"), Batches: []impl.ShareBatch{batch("a", list("a"), list("a"))}},
	} {
		if !impl.ShareBookOk(b) {
			t.Errorf("%s: not ok", what)
		}
	}
}

func TestBookLimits(t *testing.T) {
	if impl.ShareMaxName != 8 || impl.ShareMaxThings != 8 || impl.ShareMaxBatches != 5 {
		t.Error("the limits are not those of the table")
	}
	b := fullBook()
	if len(b.Things) != 8 || len(b.Batches) != 5 || len(b.Things[0]) != 8 || len(b.Batches[0].Name) != 8 || !impl.ShareBookOk(b) {
		t.Error("a book that meets each limit")
	}
	b.Things = append(b.Things, "thing-0i")
	refusedBook(t, "nine things", b)
	b = fullBook()
	b.Batches = append(b.Batches, batch("c", nil, nil))
	refusedBook(t, "six batches", b)
	refusedBook(t, "a thing of nine bytes", thingBook("thing-00a"))
	b = fullBook()
	b.Batches[4].Name = "batch-9zz"
	refusedBook(t, "a batch of nine bytes", b)
	refusedBook(t, "a very long thing", thingBook(strings.Repeat("a", 1<<20)))
}

func TestNames(t *testing.T) {
	const letters = "abcdefghijklmnopqrstuvwxyz0123456789-"
	for c := range 256 {
		one := string([]byte{byte(c)})
		want := strings.Contains(letters, one)
		for _, name := range list(one, one+"a", "a"+one, "a"+one+"a") {
			named := impl.ShareBook{Batches: []impl.ShareBatch{batch(name, nil, nil)}}
			if impl.ShareBookOk(thingBook(name)) != want || impl.ShareBookOk(named) != want {
				t.Errorf("name %q: not %v", name, want)
			}
		}
	}
	for _, name := range list("", " ", "a b", "\u00e9", "e\u0301", "\u0161", "\u4161", "\U00010061", "\ufffd", "a\xff", "\xc3", "\xe2\x82", "a\x00", "a\n", "Keg", "keg_1", "keg.") {
		refusedBook(t, "thing "+name, thingBook(name))
		refusedBook(t, "batch "+name, impl.ShareBook{Batches: []impl.ShareBatch{batch(name, nil, nil)}})
	}
}

func TestBookNotOk(t *testing.T) {
	for what, spoil := range map[string]func(b *impl.ShareBook){
		"things not ascending":          func(b *impl.ShareBook) { b.Things = list("keg", "tun", "pipe", "vat") },
		"a thing twice":                 func(b *impl.ShareBook) { b.Things = list("keg", "pipe", "pipe", "tun", "vat") },
		"a longer thing ahead":          func(b *impl.ShareBook) { b.Things = list("keg", "pipe", "tun", "vat2", "vat") },
		"a thing that is no name":       func(b *impl.ShareBook) { b.Things = list("", "keg", "pipe", "tun", "vat") },
		"a last thing that is no name":  func(b *impl.ShareBook) { b.Things = append(b.Things, "~") },
		"batches not ascending":         func(b *impl.ShareBook) { b.Batches[0], b.Batches[1] = b.Batches[1], b.Batches[0] },
		"last batches not ascending":    func(b *impl.ShareBook) { b.Batches[1], b.Batches[2] = b.Batches[2], b.Batches[1] },
		"a batch twice":                 func(b *impl.ShareBook) { b.Batches[2].Name = "b" },
		"a batch without a name":        func(b *impl.ShareBook) { b.Batches[0].Name = "" },
		"needs not ascending":           func(b *impl.ShareBook) { b.Batches[2].Needs = list("keg", "vat", "pipe") },
		"a need twice":                  func(b *impl.ShareBook) { b.Batches[2].Needs = list("keg", "pipe", "pipe") },
		"a need that is no thing":       func(b *impl.ShareBook) { b.Batches[2].Needs = list("keg", "zz") },
		"a need that is the empty text": func(b *impl.ShareBook) { b.Batches[2].Needs = list("", "keg") },
		"needs of which one is no more": func(b *impl.ShareBook) { b.Things = list("keg", "tun", "vat") },
		"has not ascending":             func(b *impl.ShareBook) { b.Batches[2].Has = list("vat", "pipe") },
		"has a thing twice":             func(b *impl.ShareBook) { b.Batches[2].Has = list("vat", "vat") },
		"has what it does not need":     func(b *impl.ShareBook) { b.Batches[1].Has = list("pipe", "tun") },
		"has with no needs":             func(b *impl.ShareBook) { b.Batches[0].Needs = nil },
		"has what is no thing":          func(b *impl.ShareBook) { b.Batches[2].Has = list("zz") },
		"has and needs what is none":    func(b *impl.ShareBook) { b.Batches[2].Has, b.Batches[2].Needs = list("zz"), list("zz") },
		"two have one thing":            func(b *impl.ShareBook) { b.Batches[2].Has = list("keg") },
		"two have one among others":     func(b *impl.ShareBook) { b.Batches[2].Has = list("keg", "pipe", "vat") },
	} {
		b := brewBook()
		spoil(&b)
		refusedBook(t, what, b)
	}
}

// TestBookAtWill holds ShareBookOk against chapter 1's words, and against what promise 5 asks of a book, at books of all kinds.
func TestBookAtWill(t *testing.T) {
	r := numbers(5)
	seen := map[bool]int{}
	for range 30000 {
		b := r.wildBook()
		ok := impl.ShareBookOk(b)
		seen[ok]++
		if ok != saidOk(b) {
			t.Fatalf("ok is %v: %q", ok, b)
		}
		if !ok {
			refusedBook(t, "a wild book", b)
			continue
		}
		for _, thing := range b.Things {
			haver := ""
			for _, x := range b.Batches {
				if slices.Contains(x.Has, thing) {
					if haver != "" || !slices.Contains(x.Needs, thing) {
						t.Fatalf("%q is had twice, or without need: %q", thing, b)
					}
					haver = x.Name
				}
			}
			if who := impl.ShareWho(b, thing); who != haver {
				t.Fatalf("who has %q: %q, not %q: %q", thing, who, haver, b)
			}
		}
	}
	if seen[true] < 1000 || seen[false] < 1000 {
		t.Errorf("too few of a kind: %v", seen)
	}
}

func TestWho(t *testing.T) {
	for _, c := range []struct{ what, thing, want string }{
		{"had by the first", "keg", "ale"},
		{"had by another", "tun", "b"},
		{"needed, but not had", "vat", ""},
		{"needed by one, not had", "pipe", ""},
		{"none of Things", "zz", ""},
		{"a batch's name", "ale", ""},
		{"the empty text", "", ""},
		{"no name", "\xff", ""},
		{"the beginning of one", "ke", ""},
		{"a longer one", "kegs", ""},
	} {
		if who := impl.ShareWho(brewBook(), c.thing); who != c.want {
			t.Errorf("%s: %q", c.what, who)
		}
	}
	if impl.ShareWho(ringBook(), "vat") != "dark" {
		t.Error("who has what in a book that is not safe")
	}
	if impl.ShareWho(fullBook(), "thing-0h") != "batch-9z" || impl.ShareWho(fullBook(), "thing-0d") != "batch-9y" {
		t.Error("who has what in a full book")
	}
	b := brewBook()
	b.Things = append(b.Things, "a")
	if impl.ShareWho(b, "keg") != "" || impl.ShareWho(b, "") != "" {
		t.Error("a book that is not ok")
	}
	if impl.ShareWho(impl.ShareBook{}, "keg") != "" || impl.ShareWho(impl.ShareBook{}, "") != "" {
		t.Error("an empty book")
	}
}
