package tests

import (
	"slices"
	"strings"
	"testing"

	"loop.example/maltshare/impl"
)

// plays says that a session is answered so.
func plays(t *testing.T, text, want string) {
	t.Helper()
	if told := impl.ShareSession(text); told != want {
		t.Errorf("%q:\nanswered %q,\nnot      %q", text, told, want)
	}
}

// dialogue is a session of lines and their answers in turn.
func dialogue(t *testing.T, said ...string) {
	t.Helper()
	var text, want string
	for pair := range slices.Chunk(said, 2) {
		text += pair[0] + "\n"
		want += pair[1] + "\n"
	}
	plays(t, text, want)
}

// exampleText and exampleTold are the document's example.
const (
	exampleText = `things keg tun vat
enter ale keg tun
enter b tun vat
enter dark keg vat
ask ale keg
ask b tun
ask dark vat
order
moves
waits dark
ask ale tun
less b
who tun
ask ale tun
leave ale
show
ask dark vat keg
ask dark keg vat
ask b
less dark keg
enter ale keg
enter x9 zz
who keg
show
leave zz
`
	exampleTold = `ok
code 0
code 0
code 0
code 0
code 0
code 6
b ale dark
b
ale
code 5
code 0
none
code 0
code 0
b: dark: keg vat
code 2
code 0
code 0
code 0
code 0
code 2
dark
ale: keg b: dark: keg!
code 3
`
)

func TestSessionExample(t *testing.T) {
	plays(t, exampleText, exampleTold)
	plays(t, strings.TrimSuffix(exampleText, "\n"), exampleTold)
}

func TestSessionThings(t *testing.T) {
	dialogue(t,
		"things keg tun", "ok",
		"enter ale keg tun", "code 0",
		"ask ale keg", "code 0",
		// What would not be ok leaves the book as it was, its batches and its things.
		"things tun keg", "no",
		"things keg keg", "no",
		"things Keg", "no",
		"things keg!", "no",
		"things 123456789", "no",
		"things k\xc3\xa9g", "no",
		"things a b c d e f g h i", "no",
		"show", "ale: keg! tun",
		"who keg", "ale",
		"enter b tun", "code 0",
		"enter c vat", "code 2",
		// What is ok leaves no batch, and no thing of those before.
		"things vat", "ok",
		"show", "none",
		"who keg", "none",
		"enter c keg", "code 2",
		"enter c vat", "code 0",
		"show", "c: vat",
		// The same things once more are a new book, too.
		"things vat", "ok",
		"show", "none",
		"things a b c d e f g 12345678", "no",
		"things 12345678 a b c d e f g", "ok",
		"enter x 12345678 a b c d e f g", "code 0",
		"show", "x: 12345678 a b c d e f g",
	)
}

func TestSessionEnter(t *testing.T) {
	dialogue(t,
		"enter a keg", "code 2",
		"enter a", "code 0",
		"show", "a:",
		"things keg tun vat", "ok",
		"enter c keg vat", "code 0",
		"enter a", "code 0",
		"show", "a: c: keg vat",
		"enter b zz", "code 2",
		"enter b vat keg", "code 2",
		"enter b keg keg", "code 2",
		"enter B keg", "code 2",
		"enter b! keg", "code 2",
		"enter 123456789 keg", "code 2",
		"enter a keg", "code 3",
		"enter c", "code 3",
		"show", "a: c: keg vat",
		"enter 12345678 tun", "code 0",
		"enter b keg tun vat", "code 0",
		"enter d vat", "code 0",
		"show", "12345678: tun a: b: keg tun vat c: keg vat d: vat",
		"enter e vat", "code 4",
		"enter e", "code 4",
		"enter d", "code 3",
		"enter e zz", "code 2",
		"show", "12345678: tun a: b: keg tun vat c: keg vat d: vat",
		"leave a", "code 0",
		"enter e", "code 0",
	)
}

func TestSessionAsk(t *testing.T) {
	dialogue(t,
		"ask a", "code 3",
		"things keg tun vat", "ok",
		"enter a keg tun", "code 0",
		"enter b keg tun", "code 0",
		"enter c vat", "code 0",
		"ask a keg", "code 0",
		"show", "a: keg! tun b: keg tun c: vat",
		"ask d keg", "code 3",
		"ask A zz", "code 3",
		"ask a vat", "code 2",
		"ask a zz", "code 2",
		"ask a tun keg", "code 2",
		"ask a tun tun", "code 2",
		"ask b keg", "code 5",
		"ask b keg tun", "code 5",
		"ask b tun", "code 6",
		"show", "a: keg! tun b: keg tun c: vat",
		"ask c vat", "code 0",
		"ask a keg", "code 0",
		"ask a keg tun", "code 0",
		"show", "a: keg! tun! b: keg tun c: vat!",
	)
}

func TestSessionLess(t *testing.T) {
	dialogue(t,
		"less a", "code 3",
		"things keg tun vat", "ok",
		"enter a keg tun vat", "code 0",
		"enter b keg", "code 0",
		"ask a keg vat", "code 0",
		"less c", "code 3",
		"less A keg", "code 3",
		"less b tun", "code 2",
		"less a zz", "code 2",
		"less a vat keg", "code 2",
		"less a keg keg", "code 2",
		"show", "a: keg! tun vat! b: keg",
		"less a keg tun vat", "code 0",
		"show", "a: keg! tun vat! b: keg",
		"less a tun vat", "code 0",
		"show", "a: tun vat! b: keg",
		"ask b keg", "code 0",
		"less a keg tun", "code 2",
		"less b", "code 0",
		"show", "a: tun vat! b:",
		"who keg", "none",
	)
}

func TestSessionLeave(t *testing.T) {
	dialogue(t,
		"leave a", "code 3",
		"things keg", "ok",
		"enter a keg", "code 0",
		"enter b keg", "code 0",
		"ask a keg", "code 0",
		"leave c", "code 3",
		"leave A", "code 3",
		"leave keg", "code 3",
		"show", "a: keg! b: keg",
		"leave a", "code 0",
		"show", "b: keg",
		"who keg", "none",
		"leave a", "code 3",
		"ask b keg", "code 0",
		"leave b", "code 0",
		"show", "none",
	)
}

func TestSessionShow(t *testing.T) {
	dialogue(t,
		"show", "none",
		"things a aa b", "ok",
		"show", "none",
		"enter x", "code 0",
		"show", "x:",
		"enter w", "code 0",
		"show", "w: x:",
		"enter y a aa b", "code 0",
		"show", "w: x: y: a aa b",
		// What has a thing's name at its front is another thing.
		"ask y aa", "code 0",
		"show", "w: x: y: a aa! b",
		"enter z a", "code 0",
		"ask z a", "code 0",
		"show", "w: x: y: a aa! b z: a!",
		"ask y b", "code 0",
		"show", "w: x: y: a aa! b! z: a!",
		"leave z", "code 0",
		"ask y a aa b", "code 0",
		"show", "w: x: y: a! aa! b!",
		// Batches and things may have one name, and that of a command or an answer.
		"things none show", "ok",
		"enter show none show", "code 0",
		"ask show show", "code 0",
		"show", "show: none show!",
		"who show", "show",
	)
}

func TestSessionOrderMovesWaitsWho(t *testing.T) {
	dialogue(t,
		"order", "none",
		"moves", "none",
		"waits a", "none",
		"who keg", "none",
		"things keg tun vat", "ok",
		"order", "none",
		"moves", "none",
		"who keg", "none",
		"enter a keg tun", "code 0",
		"enter b tun vat", "code 0",
		"enter c vat", "code 0",
		"enter d keg", "code 0",
		"order", "a b c d",
		"moves", "a b c d",
		"waits a", "none",
		"ask c vat", "code 0",
		"ask b tun", "code 0",
		"ask d keg", "code 0",
		"order", "c b d a",
		"moves", "c d",
		"waits a", "b d",
		"waits b", "c",
		"waits c", "none",
		"waits e", "none",
		"waits keg", "none",
		"who keg", "d",
		"who tun", "b",
		"who vat", "c",
		"who a", "none",
		"who zz", "none",
		// None of these has changed anything.
		"show", "a: keg tun b: tun! vat c: vat! d: keg!",
		"leave c", "code 0",
		"order", "b d a",
		"moves", "b d",
		"waits b", "none",
		"who vat", "none",
	)
}

func TestSessionNoNames(t *testing.T) {
	dialogue(t,
		"things", "ok",
		"enter a", "code 0",
		"ask a", "code 0",
		"less a", "code 0",
		"show", "a:",
		"things keg", "ok",
		"enter a keg", "code 0",
		"ask a keg", "code 0",
		"ask a", "code 0",
		"show", "a: keg!",
		"less a", "code 0",
		"show", "a:",
		"things", "ok",
		"show", "none",
		"enter a keg", "code 2",
	)
}

// setUp is lines, and their answers, that lead to a book with two batches; behind them shown is what it shows.
var setUp = list("things keg tun", "ok", "enter ale keg tun", "code 0", "enter b keg", "code 0", "ask ale keg", "code 0")

const shown = "ale: keg! tun b: keg"

// between is an answer to one line behind setUp, which leaves the book as it is.
func between(t *testing.T, line, want string) {
	t.Helper()
	dialogue(t, slices.Concat(setUp, list(line, want, "show", shown))...)
}

func TestSessionBad(t *testing.T) {
	for _, c := range []struct {
		what  string
		lines []string
	}{
		{"nothing", list("")},
		{"a word of none", list("a", "sho", "shows", "Show", "SHOW", "thing", "ale", "none", "bad", "too long", "code 0", "stuck", "fits ale b", "safe", "0")},
		{"a word that sticks to the next", list("enterc keg", "things,keg", "who:keg", "leaveb")},
		{"a word too few", list("enter", "ask", "less", "leave", "waits", "who")},
		{"a word too many", list("leave ale b", "leave ale ale", "leave ale b keg", "show ale", "show show", "order ale", "order ale b", "moves ale", "waits b ale", "waits b b", "who keg tun", "who keg keg keg")},
		{"bytes that are no spaces", list("show\r", "enter\tc", "who\tkeg", "who\u00a0keg", "leave\x00b", "order\x00", "\ufeffshow", "\xff", "\x00", "\r", "\t", "moves\v")},
	} {
		for _, line := range c.lines {
			t.Run(c.what, func(t *testing.T) { between(t, line, "bad") })
		}
	}
	dialogue(t, "", "bad", "show", "none", "", "bad", "", "bad", "things a", "ok")
}

// TestSessionWordCounts holds each word of the table against every number of words behind it, from none up.
func TestSessionWordCounts(t *testing.T) {
	const any = 5
	for _, c := range []struct {
		word        string
		least, most int
	}{
		{"things", 0, any}, {"enter", 1, any}, {"ask", 1, any}, {"less", 1, any}, {"leave", 1, 1},
		{"show", 0, 0}, {"order", 0, 0}, {"moves", 0, 0}, {"waits", 1, 1}, {"who", 1, 1},
	} {
		for count := range any + 1 {
			line := c.word + strings.Repeat(" b", count)
			if count < c.least || count > c.most {
				between(t, line, "bad")
			} else if told := impl.ShareSession(line); told == "bad\n" {
				t.Errorf("%q is bad", line)
			}
		}
	}
}

// TestSessionWordsAlmost holds texts that are nearly words of the table to be none, with every number of words behind them.
func TestSessionWordsAlmost(t *testing.T) {
	for _, word := range list("things", "enter", "ask", "less", "leave", "show", "order", "moves", "waits", "who") {
		for _, almost := range list(word[1:], word[:len(word)-1], word+"s", word+"e", "s"+word, word+word, word+":", word+"!", strings.ToUpper(word), strings.ToUpper(word[:1])+word[1:]) {
			for count := range 4 {
				between(t, almost+strings.Repeat(" b", count), "bad")
			}
		}
	}
}

func TestSessionSpaces(t *testing.T) {
	for _, line := range list("things keg", "things", "enter c keg", "enter c", "ask ale tun", "ask ale", "less ale keg", "less ale", "leave ale", "show", "order", "moves", "waits b", "who keg", "") {
		between(t, " "+line, "bad")
		between(t, "  "+line, "bad")
	}
	for _, c := range []struct{ line, want string }{
		// At the end: the last word is the empty one.
		{"things ", "no"}, {"things keg ", "no"}, {"things  ", "no"},
		{"enter ", "code 2"}, {"enter c ", "code 2"}, {"enter c keg ", "code 2"}, {"enter ale ", "code 2"},
		{"ask ", "code 3"}, {"ask ale ", "code 2"}, {"ask ale tun ", "code 2"}, {"ask c ", "code 3"},
		{"less ", "code 3"}, {"less ale ", "code 2"}, {"less ale keg ", "code 2"}, {"less c ", "code 3"},
		{"leave ", "code 3"}, {"leave ale ", "bad"}, {"leave  ", "bad"},
		{"show ", "bad"}, {"show  ", "bad"}, {"order ", "bad"}, {"order  ", "bad"}, {"moves ", "bad"}, {"moves  ", "bad"},
		{"waits ", "none"}, {"waits b ", "bad"}, {"waits  ", "bad"},
		{"who ", "none"}, {"who keg ", "bad"}, {"who  ", "bad"},
		// Two together: the empty word is between them.
		{"things  keg", "no"}, {"things keg  tun", "no"},
		{"enter  c", "code 2"}, {"enter  c keg", "code 2"}, {"enter c  keg", "code 2"}, {"enter c keg  tun", "code 2"},
		{"ask  ale", "code 3"}, {"ask  ale tun", "code 3"}, {"ask ale  tun", "code 2"}, {"ask ale keg  tun", "code 2"},
		{"less  ale", "code 3"}, {"less  ale keg", "code 3"}, {"less ale  keg", "code 2"}, {"less ale keg  tun", "code 2"},
		{"leave  ale", "bad"}, {"waits  b", "bad"}, {"who  keg", "bad"}, {"show  ale", "bad"}, {"order  b", "bad"}, {"moves  b", "bad"},
	} {
		between(t, c.line, c.want)
	}
}

func TestSessionLines(t *testing.T) {
	for _, c := range []struct{ text, want string }{
		{"", ""},
		{"\n", "bad\n"},
		{"\n\n", "bad\nbad\n"},
		{"show", "none\n"},
		{"show\n", "none\n"},
		{"show\n\n", "none\nbad\n"},
		{"\nshow", "bad\nnone\n"},
		{"\n\nshow\n\n\n", "bad\nbad\nnone\nbad\nbad\n"},
		{"show\nshow", "none\nnone\n"},
		{" ", "bad\n"},
		{"show\n ", "none\nbad\n"},
		{"show\r\nshow\r\n", "bad\nbad\n"},
		{"show\rshow", "bad\n"},
		{"show\u2028show\u0085show\fshow\x00", "bad\n"},
		{"things k\nenter\nleave a", "ok\nbad\ncode 3\n"},
		{"things \xff\nenter \xff\nask \xff \xff\nless \x80\nleave \xc3\nwaits \x00\nwho \u00e9\n\xff\xfe", "no\ncode 2\ncode 3\ncode 3\ncode 3\nnone\nnone\nbad\n"},
		{"things a\x00b\nthings a\tb\nthings a,b\nwho \r", "no\nno\nno\nnone\n"},
	} {
		plays(t, c.text, c.want)
	}
	for b := range 256 {
		one := string([]byte{byte(b)})
		if b != '\n' {
			plays(t, one, "bad\n")
			plays(t, "show"+one+"\n", "bad\n")
		}
		for _, text := range list("things "+one, "enter "+one+"\nshow", "things a\nenter x a\nwho"+one+"a", "show"+one+"show") {
			plays(t, text, saidSession(text))
		}
	}
}

func TestSessionTooLong(t *testing.T) {
	const tooLong = "too long\n"
	line := func(size int) string { return "things " + strings.Repeat("a", size-7) }
	for _, c := range []struct {
		what string
		text string
		want string
	}{
		{"as many bytes as may be, in one line", line(8000), "no\n"},
		{"as many, the newline among them", line(7999) + "\n", "no\n"},
		{"one more", line(8001), tooLong},
		{"one more: the newline", line(8000) + "\n", tooLong},
		{"one more, behind lines with answers", "things a\nshow\n" + line(8001-14), tooLong},
		{"as many, behind lines with answers", "things a\nshow\n" + line(8000-14), "ok\nnone\nno\n"},
		{"as many bytes, of 4000 words", "things" + strings.Repeat(" a", 3997), "no\n"},
		{"as many bytes, a name and very many", "enter x" + strings.Repeat(" a", 3996), "code 2\n"},
		{"bytes are counted, not runes", strings.Repeat("\u00e9", 4000), "bad\n"},
		{"bytes are counted, not runes: one more", strings.Repeat("\u00e9", 4000) + "a", tooLong},
		{"very many bytes", strings.Repeat("show", 1<<20), tooLong},
		{"as many lines as may be", strings.Repeat("show\n", 200), strings.Repeat("none\n", 200)},
		{"as many, with no last newline", strings.Repeat("show\n", 199) + "show", strings.Repeat("none\n", 200)},
		{"one more", strings.Repeat("show\n", 201), tooLong},
		{"one more, with no last newline", strings.Repeat("show\n", 200) + "show", tooLong},
		{"one more: an empty one", strings.Repeat("show\n", 200) + "\n", tooLong},
		{"one more: a space with no newline", strings.Repeat("show\n", 200) + " ", tooLong},
		{"as many empty ones", strings.Repeat("\n", 200), strings.Repeat("bad\n", 200)},
		{"one more empty one", strings.Repeat("\n", 201), tooLong},
		{"as many bytes as may be, and all newlines", strings.Repeat("\n", 8000), tooLong},
		{"very many lines", strings.Repeat("show\n", 1<<18), tooLong},
		{"as many of both", strings.Repeat(line(39)+"\n", 200), strings.Repeat("no\n", 200)},
		{"as many lines, and a byte too many", "x" + strings.Repeat(line(39)+"\n", 200), tooLong},
		{"as many bytes, and a line too many", "\n\n" + strings.Repeat(line(39)+"\n", 198) + line(78), tooLong},
	} {
		if told := impl.ShareSession(c.text); told != c.want {
			t.Errorf("%s: %.80q, not %.80q", c.what, told, c.want)
		}
	}
	if impl.ShareMaxSession != 8000 || impl.ShareMaxLines != 200 {
		t.Errorf("the limits are %d and %d", impl.ShareMaxSession, impl.ShareMaxLines)
	}
}
