package tests

import (
	"slices"
	"strings"
	"sync"
	"testing"

	"loop.example/maltshare/impl"
)

// wildLine is a line that fits a book most often, now and then one that was changed at will.
func (r *numbers) wildLine(b impl.ShareBook) string {
	c := r.wildCall(b)
	// Fewer go and need less than come and ask, so that the book fills.
	for (c.word == "leave" || c.word == "less") && r.below(5) > 0 || c.word != "enter" && len(b.Batches) < 3 && r.below(3) > 0 {
		c = r.wildCall(b)
	}
	if c.word == "leave" {
		c.names = nil
	}
	line := strings.Join(slices.Concat(list(c.word, c.name), c.names), " ")
	all := list("-", "0", "a", "aa", "b", "keg", "tun", "vat")
	switch {
	case len(b.Things) == 0 && r.below(4) > 0 || r.below(120) == 0:
		line = strings.Join(slices.Concat(list("things"), all[r.below(4):4+r.below(5)]), " ")
	case r.below(4) == 0:
		line = list("show", "order", "moves", "waits "+c.name, "who "+all[r.below(len(all))])[r.below(5)]
	}
	if r.below(16) == 0 {
		return r.changed(line)
	}
	return line
}

// changed is a text in which one byte more, less or other stands somewhere.
func (r *numbers) changed(text string) string {
	at := r.below(len(text) + 1)
	other := list(" ", " ", "\n", "\n", "\r", "a", "!", "z", "-", "\x00", "\xff", "\u00e9")[r.below(12)]
	behind := text[at:]
	if len(behind) > 0 && r.below(2) == 0 {
		behind = behind[1:]
		if r.below(2) == 0 {
			other = ""
		}
	}
	return text[:at] + other + behind
}

// wildText is a session of about so many lines.
func (r *numbers) wildText(lines int) string {
	var b impl.ShareBook
	var text strings.Builder
	for range lines {
		line := r.wildLine(b)
		b, _ = saidLine(b, line)
		text.WriteString(line + "\n")
	}
	if r.below(3) == 0 {
		return strings.TrimSuffix(text.String(), "\n")
	}
	return text.String()
}

// answersFromTheFront is promise 8 at a text: a beginning that ends at a newline has the same answers, a line for a line.
func answersFromTheFront(t *testing.T, text string) {
	t.Helper()
	whole := impl.ShareSession(text)
	if want := saidSession(text); whole != want {
		t.Fatalf("%q:\nanswered %q,\nnot      %q", text, whole, want)
	}
	lines := 0
	for end := range len(text) {
		if text[end] != '\n' {
			continue
		}
		lines++
		told := impl.ShareSession(text[:end+1])
		if lines > 200 || end+1 > 8000 {
			if told != "too long\n" {
				t.Fatalf("%q: %q", text[:end+1], told)
			}
			continue
		}
		if strings.Count(told, "\n") != lines || !strings.HasSuffix(told, "\n") {
			t.Fatalf("%q: %d lines are answered %q", text, lines, told)
		}
		if whole != "too long\n" && !strings.HasPrefix(whole, told) {
			t.Fatalf("%q: the first %d lines are answered %q, then %q", text, lines, told, whole)
		}
	}
}

// TestSessionsFromTheFront is promise 8 at texts of all lengths, those that are too long among them.
func TestSessionsFromTheFront(t *testing.T) {
	answersFromTheFront(t, exampleText)
	answersFromTheFront(t, "")
	answersFromTheFront(t, strings.Repeat("\n", 250))
	answersFromTheFront(t, strings.Repeat("enter a"+strings.Repeat(" keg", 60)+"\n", 40))
	r := numbers(8)
	seen := map[string]int{}
	for i := range 400 {
		text := r.wildText(r.below(80))
		if i%10 == 0 {
			text = r.wildText(195 + r.below(10))
		}
		answersFromTheFront(t, text)
		for answer := range strings.Lines(impl.ShareSession(text)) {
			seen[strings.TrimSuffix(answer, "\n")]++
		}
	}
	for _, answer := range list("ok", "no", "bad", "none", "too long", "code 0", "code 2", "code 3", "code 4", "code 5", "code 6") {
		if seen[answer] < 8 {
			t.Errorf("%q came only %d times", answer, seen[answer])
		}
	}
	if len(seen) < 100 {
		t.Errorf("only %d answers came", len(seen))
	}
}

// TestSessionsOfAnyBytes is promise 8 at texts in which anything may stand.
func TestSessionsOfAnyBytes(t *testing.T) {
	r := numbers(9)
	for range 300 {
		text := make([]byte, r.below(200))
		for i := range text {
			text[i] = byte(r.below(256))
			if r.below(8) == 0 {
				text[i] = " \n"[r.below(2)]
			}
		}
		answersFromTheFront(t, string(text))
	}
	for range 300 {
		text := r.wildText(12)
		for range r.below(10) {
			text = r.changed(text)
		}
		answersFromTheFront(t, text)
	}
}

// sessions is texts of many kinds.
func sessions() []string {
	r := numbers(10)
	texts := list(exampleText, "", "show", "things keg\nenter a keg\nask a keg", "who keg\nenter a keg\nleave a", strings.Repeat("\n", 201), "\n\xff\n")
	for range 40 {
		texts = append(texts, r.wildText(30))
	}
	return texts
}

// TestSessionLeavesNothing says that a session is answered alike, whatever was played before it.
func TestSessionLeavesNothing(t *testing.T) {
	plays(t, "things keg\nenter a keg\nask a keg\nshow", "ok\ncode 0\ncode 0\na: keg!\n")
	plays(t, "show\nwho keg\nask a keg\nenter a keg\nthings keg\nshow", "none\nnone\ncode 3\ncode 2\nok\nnone\n")
	texts := sessions()
	var first []string
	for _, text := range texts {
		first = append(first, impl.ShareSession(text))
	}
	for i, before := range texts {
		for j, text := range texts {
			impl.ShareSession(before)
			if told := impl.ShareSession(text); told != first[j] {
				t.Fatalf("behind %q: %q is answered %q, not %q", texts[i], text, told, first[j])
			}
		}
	}
}

// TestSessionsAtOnce says that sessions which are played at once do not meet.
func TestSessionsAtOnce(t *testing.T) {
	texts := sessions()
	told := make([]string, 4*len(texts))
	var playing sync.WaitGroup
	for i := range told {
		playing.Go(func() { told[i] = impl.ShareSession(texts[i%len(texts)]) })
	}
	playing.Wait()
	for i, answer := range told {
		if text := texts[i%len(texts)]; answer != saidSession(text) {
			t.Fatalf("%q: %q", text, answer)
		}
	}
}
