package tests

import (
	"slices"
	"testing"

	"loop.example/maltshare/impl"
)

// answers says that a call of a book answers this code, and with 1 nothing, with another the book as it was.
func answers(t *testing.T, what string, b impl.ShareBook, c call, want int) impl.ShareBook {
	t.Helper()
	after, code := c.do(copyBook(b))
	if code != want {
		t.Errorf("%s: %q: code %d, not %d", what, c, code, want)
	}
	if code == 1 && !sameBook(after, impl.ShareBook{}) {
		t.Errorf("%s: %q: code 1, but the book is not nothing: %q", what, c, after)
	}
	if code > 1 && !sameBook(after, b) {
		t.Errorf("%s: %q: code %d, but the book is not as it was: %q", what, c, code, after)
	}
	return after
}

// fiveBook is a book with as many batches as there may be, and room in Things.
func fiveBook() impl.ShareBook {
	b := brewBook()
	b.Batches = append(b.Batches, batch("e", list("pipe"), list("pipe")), batch("f", nil, nil))
	return b
}

// sixBook is fiveBook with one batch too many.
func sixBook() impl.ShareBook {
	b := fiveBook()
	b.Batches = append(b.Batches, batch("g", nil, nil))
	return b
}

func TestEnterCodes(t *testing.T) {
	for _, c := range []struct {
		what  string
		b     impl.ShareBook
		name  string
		needs []string
		want  int
	}{
		{"comes in", brewBook(), "c", list("keg"), 0},
		{"a book that is not ok", unsound(), "c", list("keg"), 1},
		{"the name is empty", brewBook(), "", list("keg"), 2},
		{"the name is none", brewBook(), "C", list("keg"), 2},
		{"the name is none", brewBook(), "c\xff", nil, 2},
		{"the name is too long", brewBook(), "123456789", list("keg"), 2},
		{"the longest name", brewBook(), "12345678", list("keg"), 0},
		{"needs not ascending", brewBook(), "c", list("tun", "keg"), 2},
		{"a need twice", brewBook(), "c", list("keg", "keg"), 2},
		{"a need that is no thing", brewBook(), "c", list("zz"), 2},
		{"a need that is no thing, behind one that is", brewBook(), "c", list("keg", "zz"), 2},
		{"a need that is a batch", brewBook(), "c", list("ale"), 2},
		{"a need that is the empty text", brewBook(), "c", list(""), 2},
		{"more needs than there may be things", fullBook(), "c", append(fullBook().Things, "z"), 2},
		{"the batch is there", brewBook(), "b", list("keg"), 3},
		{"the batch is there, and needs just this", brewBook(), "b", list("tun", "vat"), 3},
		{"there are five", fiveBook(), "c", list("keg"), 4},
		{"needs nothing", brewBook(), "c", nil, 0},
		{"needs all", brewBook(), "c", brewBook().Things, 0},
		{"needs what others have", brewBook(), "c", list("keg", "tun"), 0},
		{"into a book that is not safe", ringBook(), "c", list("keg"), 0},
		{"the name of a thing", brewBook(), "keg", list("keg"), 0},
		{"into an empty book", impl.ShareBook{}, "c", nil, 0},
		{"into an empty book, with a need", impl.ShareBook{}, "c", list("keg"), 2},
		{"1 ahead of 2", unsound(), "", list("keg"), 1},
		{"1 ahead of 2", unsound(), "c", list("tun", "keg"), 1},
		{"1 ahead of 3", unsound(), "b", nil, 1},
		{"1 ahead of 4", sixBook(), "c", nil, 1},
		{"1 ahead of all", sixBook(), "b", list("zz"), 1},
		{"2 ahead of 3", brewBook(), "b", list("tun", "keg"), 2},
		{"2 ahead of 3", brewBook(), "b", list("zz"), 2},
		{"2 ahead of 4", fiveBook(), "C", nil, 2},
		{"2 ahead of 4", fiveBook(), "c", list("keg", "keg"), 2},
		{"2 ahead of 3 and 4", fiveBook(), "b", list("keg", "keg"), 2},
		{"3 ahead of 4", fiveBook(), "b", list("keg"), 3},
	} {
		answers(t, c.what, c.b, call{"enter", c.name, c.needs}, c.want)
	}
}

func TestAskCodes(t *testing.T) {
	for _, c := range []struct {
		what   string
		b      impl.ShareBook
		name   string
		things []string
		want   int
	}{
		{"is given", brewBook(), "dark", list("pipe"), 0},
		{"a book that is not ok", unsound(), "dark", list("pipe"), 1},
		{"nobody of this name", brewBook(), "c", list("pipe"), 3},
		{"nobody of this name", brewBook(), "", list("pipe"), 3},
		{"nobody of this name", brewBook(), "darkest", list("pipe"), 3},
		{"the name is a thing", brewBook(), "keg", list("keg"), 3},
		{"nobody is there", thingBook("keg"), "ale", nil, 3},
		{"what it does not need", brewBook(), "ale", list("pipe"), 2},
		{"what it does not need, beside what it does", brewBook(), "dark", list("pipe", "tun"), 2},
		{"what is no thing", brewBook(), "dark", list("zz"), 2},
		{"the empty text", brewBook(), "dark", list(""), 2},
		{"not ascending", fullBook(), "batch-9v", list("thing-0h", "thing-0a"), 2},
		{"twice", brewBook(), "dark", list("pipe", "pipe"), 2},
		{"what it has, twice", brewBook(), "ale", list("keg", "keg"), 2},
		{"another has it", brewBook(), "ale", list("tun"), 5},
		{"another has it, though not the rest", brewBook(), "dark", list("keg", "pipe"), 5},
		{"another has it, in a book that is not safe", ringBook(), "ale", list("tun"), 5},
		{"another has it, though this one has the rest", brewBook(), "ale", list("keg", "tun"), 5},
		{"none could end behind it", brewBook(), "dark", list("vat"), 6},
		{"none could end behind it, though some of it could be given", brewBook(), "dark", list("pipe", "vat"), 6},
		{"1 ahead of 3", unsound(), "c", list("pipe"), 1},
		{"1 ahead of 2", unsound(), "dark", list("zz"), 1},
		{"1 ahead of 5", unsound(), "ale", list("tun"), 1},
		{"3 ahead of 2", brewBook(), "c", list("zz"), 3},
		{"3 ahead of 2", brewBook(), "c", list("tun", "keg"), 3},
		{"3 ahead of 5", brewBook(), "c", list("keg"), 3},
		{"2 ahead of 5", brewBook(), "ale", list("pipe", "tun"), 2},
		{"2 ahead of 5", brewBook(), "ale", list("tun", "keg"), 2},
		{"2 ahead of 6", brewBook(), "dark", list("vat", "vat"), 2},
		{"2 ahead of 6", brewBook(), "dark", list("vat", "pipe"), 2},
		{"2 ahead of 5 and 6", brewBook(), "dark", list("vat", "keg"), 2},
		{"5 ahead of 6", brewBook(), "dark", list("keg", "vat"), 5},
	} {
		answers(t, c.what, c.b, call{"ask", c.name, c.things}, c.want)
	}
}

func TestLessCodes(t *testing.T) {
	for _, c := range []struct {
		what  string
		b     impl.ShareBook
		name  string
		needs []string
		want  int
	}{
		{"needs less", brewBook(), "dark", list("keg", "vat"), 0},
		{"needs nothing", brewBook(), "dark", nil, 0},
		{"needs as much", brewBook(), "dark", list("keg", "pipe", "vat"), 0},
		{"a book that is not ok", unsound(), "ale", list("keg"), 1},
		{"nobody of this name", brewBook(), "c", list("keg"), 3},
		{"nobody of this name", brewBook(), "", nil, 3},
		{"nobody is there", thingBook("keg"), "keg", nil, 3},
		{"more than it needs", brewBook(), "ale", list("keg", "pipe", "tun"), 2},
		{"another thing", brewBook(), "ale", list("vat"), 2},
		{"what is no thing", brewBook(), "ale", list("zz"), 2},
		{"the empty text", brewBook(), "ale", list(""), 2},
		{"not ascending", brewBook(), "ale", list("tun", "keg"), 2},
		{"twice", brewBook(), "ale", list("keg", "keg"), 2},
		{"1 ahead of 3", unsound(), "c", nil, 1},
		{"1 ahead of 2", unsound(), "ale", list("tun", "keg"), 1},
		{"3 ahead of 2", brewBook(), "c", list("zz"), 3},
		{"3 ahead of 2", brewBook(), "c", list("tun", "keg"), 3},
	} {
		answers(t, c.what, c.b, call{"less", c.name, c.needs}, c.want)
	}
}

func TestLeaveCodes(t *testing.T) {
	for _, c := range []struct {
		what string
		b    impl.ShareBook
		name string
		want int
	}{
		{"the first goes", brewBook(), "ale", 0},
		{"one that has not all it needs goes", brewBook(), "dark", 0},
		{"out of a book that is not safe", ringBook(), "b", 0},
		{"a book that is not ok", unsound(), "ale", 1},
		{"nobody of this name", brewBook(), "c", 3},
		{"nobody of this name", brewBook(), "", 3},
		{"the name is a thing", brewBook(), "keg", 3},
		{"the name is none", brewBook(), "\xff", 3},
		{"nobody is there", thingBook("keg"), "ale", 3},
		{"an empty book", impl.ShareBook{}, "", 3},
		{"1 ahead of 3", unsound(), "c", 1},
	} {
		answers(t, c.what, c.b, call{"leave", c.name, nil}, c.want)
	}
}

func TestEnterInOrder(t *testing.T) {
	for _, c := range []struct {
		name string
		want []string
	}{
		{"a", list("a", "ale", "b", "dark")},
		{"al", list("al", "ale", "b", "dark")},
		{"ale-2", list("ale", "ale-2", "b", "dark")},
		{"c", list("ale", "b", "c", "dark")},
		{"dar", list("ale", "b", "dar", "dark")},
		{"darker", list("ale", "b", "dark", "darker")},
		{"zz", list("ale", "b", "dark", "zz")},
		{"-", list("-", "ale", "b", "dark")},
		{"9", list("9", "ale", "b", "dark")},
	} {
		before := brewBook()
		after := answers(t, "comes in", before, call{"enter", c.name, list("keg", "vat")}, 0)
		place := slices.Index(c.want, c.name)
		want := copyBook(before)
		want.Batches = slices.Insert(want.Batches, place, batch(c.name, nil, list("keg", "vat")))
		if !sameBook(after, want) {
			t.Errorf("%q came in so: %q", c.name, after)
		}
	}
}

func TestEnterLimits(t *testing.T) {
	b := thingBook(fullBook().Things...)
	for i, name := range list("batch-05", "batch-03", "batch-01", "batch-04", "batch-02") {
		b = answers(t, "up to five", b, call{"enter", name, b.Things}, 0)
		if len(b.Batches) != i+1 || !impl.ShareBookOk(b) {
			t.Fatalf("behind %q: %q", name, b)
		}
	}
	answers(t, "the sixth", b, call{"enter", "batch-00", nil}, 4)
	answers(t, "the sixth", b, call{"enter", "batch-06", b.Things}, 4)
	b = answers(t, "one goes", b, call{"leave", "batch-03", nil}, 0)
	answers(t, "again five", b, call{"enter", "batch-03", b.Things}, 0)
	answers(t, "a name of nine bytes", b, call{"enter", "batch-003", nil}, 2)
}

func TestAskGives(t *testing.T) {
	free := impl.ShareBook{Things: list("keg", "pipe", "tun", "vat"), Batches: []impl.ShareBatch{
		batch("ale", list("pipe"), list("keg", "pipe", "tun", "vat")),
		batch("b", nil, list("keg")),
	}}
	for _, c := range []struct {
		what   string
		b      impl.ShareBook
		place  int
		things []string
		want   []string
	}{
		{"nothing", free, 0, nil, list("pipe")},
		{"nothing, by who has nothing", free, 1, nil, nil},
		{"what one has already", free, 0, list("pipe"), list("pipe")},
		{"one ahead of what one has", free, 0, list("keg"), list("keg", "pipe")},
		{"one behind what one has", free, 0, list("vat"), list("pipe", "vat")},
		{"some around what one has", free, 0, list("keg", "tun"), list("keg", "pipe", "tun")},
		{"some, what one has among them", free, 0, list("pipe", "vat"), list("pipe", "vat")},
		{"all one needs", free, 0, list("keg", "pipe", "tun", "vat"), list("keg", "pipe", "tun", "vat")},
		{"all one needs that one has not", free, 0, list("keg", "tun", "vat"), list("keg", "pipe", "tun", "vat")},
		{"what another needs, too", free, 1, list("keg"), list("keg")},
		{"all one needs, where the others wait", brewBook(), 1, list("tun", "vat"), list("tun", "vat")},
		{"what is free, where not all can have all", brewBook(), 2, list("pipe"), list("pipe")},
		{"in a book that is not safe", ringBook(), 2, list("pipe"), list("pipe", "vat")},
		{"nothing, in a book that is not safe", ringBook(), 0, nil, list("keg")},
		{"what one has, in a book that is not safe", ringBook(), 0, list("keg"), list("keg")},
	} {
		after := answers(t, c.what, c.b, call{"ask", c.b.Batches[c.place].Name, c.things}, 0)
		want := copyBook(c.b)
		want.Batches[c.place].Has = c.want
		if !sameBook(after, want) {
			t.Errorf("%s: %q", c.what, after)
		}
	}
	// Not safe to begin with, and still less so behind: given all the same.
	worse := impl.ShareBook{Things: list("a", "b", "c", "d"), Batches: []impl.ShareBatch{
		batch("1", list("a"), list("a", "b")), batch("2", list("b"), list("a", "b")),
		batch("3", list("c"), list("c", "d")), batch("4", nil, list("c", "d")),
	}}
	after := answers(t, "one ring more", worse, call{"ask", "4", list("d")}, 0)
	if impl.ShareSafe(worse) || impl.ShareSafe(after) || impl.ShareWho(after, "d") != "4" {
		t.Errorf("one ring more: %q", after)
	}
	safe := impl.ShareBook{Things: list("c", "d"), Batches: worse.Batches[2:]}
	answers(t, "the first ring", safe, call{"ask", "4", list("d")}, 6)
}

func TestLessKeeps(t *testing.T) {
	b := impl.ShareBook{Things: list("a", "b", "c", "d", "e"), Batches: []impl.ShareBatch{
		batch("1", nil, list("a", "b", "c", "d", "e")),
		batch("2", list("a", "c", "d"), list("a", "b", "c", "d")),
		batch("3", list("e"), list("a", "e")),
	}}
	for _, c := range []struct{ needs, has []string }{
		{nil, nil},
		{list("b"), nil},
		{list("a"), list("a")},
		{list("d"), list("d")},
		{list("b", "c"), list("c")},
		{list("a", "d"), list("a", "d")},
		{list("a", "b", "d"), list("a", "d")},
		{list("a", "c", "d"), list("a", "c", "d")},
		{list("a", "b", "c", "d"), list("a", "c", "d")},
	} {
		after := answers(t, "needs less", b, call{"less", "2", c.needs}, 0)
		want := copyBook(b)
		want.Batches[1] = batch("2", c.has, c.needs)
		if !sameBook(after, want) {
			t.Errorf("needs %q: %q", c.needs, after)
		}
		for _, thing := range list("a", "c", "d") {
			if free := impl.ShareWho(after, thing) == ""; free == slices.Contains(c.needs, thing) {
				t.Errorf("needs %q: %q is free: %v", c.needs, thing, free)
			}
		}
	}
}

func TestLeaveFrees(t *testing.T) {
	for place, x := range brewBook().Batches {
		after := answers(t, "goes", brewBook(), call{"leave", x.Name, nil}, 0)
		want := brewBook()
		want.Batches = slices.Delete(want.Batches, place, place+1)
		if !sameBook(after, want) {
			t.Errorf("%q gone: %q", x.Name, after)
		}
		for _, thing := range x.Has {
			if impl.ShareWho(after, thing) != "" {
				t.Errorf("%q gone: %q is not free", x.Name, thing)
			}
		}
		answers(t, "gone already", after, call{"leave", x.Name, nil}, 3)
	}
	one := impl.ShareBook{Things: list("a"), Batches: []impl.ShareBatch{batch("x", list("a"), list("a"))}}
	if after := answers(t, "the last goes", one, call{"leave", "x", nil}, 0); !sameBook(after, thingBook("a")) {
		t.Errorf("the last gone: %q", after)
	}
}
