package tests

import (
	"fmt"
	"regexp"
	"slices"
	"strings"

	"loop.example/maltshare/impl"
)

// What chapter 5 says, written down once more by other means than the program's own.

// lineForms are the lines of its table: the word, NAME, and NAMES with a space ahead of each.
var lineForms = []*regexp.Regexp{
	regexp.MustCompile(`\A(things)()((?: [^ ]*)*)\z`),
	regexp.MustCompile(`\A(enter|ask|less) ([^ ]*)((?: [^ ]*)*)\z`),
	regexp.MustCompile(`\A(leave|waits|who) ([^ ]*)()\z`),
	regexp.MustCompile(`\A(show|order|moves)()()\z`),
}

// lineCall is the word and the names of a line; false, if it is none of the table.
func lineCall(line string) (call, bool) {
	for _, form := range lineForms {
		if parts := form.FindStringSubmatch(line); parts != nil {
			return call{parts[1], parts[2], strings.Split(parts[3], " ")[1:]}, true
		}
	}
	return call{}, false
}

// saidShow is each batch, and its needs with a mark at those that it has.
func saidShow(b impl.ShareBook) []string {
	var shown []string
	for _, x := range b.Batches {
		shown = append(shown, x.Name+":")
		for _, thing := range x.Needs {
			if saidWho(b, thing) == x.Name {
				thing += "!"
			}
			shown = append(shown, thing)
		}
	}
	return shown
}

// saidWho is ShareWho, of a book that is ok, by the words of chapter 1.
func saidWho(b impl.ShareBook, thing string) string {
	for _, x := range b.Batches {
		if slices.Contains(x.Has, thing) {
			return x.Name
		}
	}
	return ""
}

// saidOrder is ShareOrder, of a book that is safe, by the words of chapter 2:
// in such a book it is, of all orders that fit, the one that begins with the least places.
func saidOrder(b impl.ShareBook) []string {
	orders := allOrders(len(b.Batches))
	first := slices.IndexFunc(orders, func(places []int) bool { return saidFits(b, places) })
	return namesAt(b, orders[first])
}

// saidNames is what a line tells that changes nothing.
func saidNames(b impl.ShareBook, c call) []string {
	switch c.word {
	case "show":
		return saidShow(b)
	case "order":
		return saidOrder(b)
	case "moves":
		return saidMoves(b)
	case "waits":
		return saidWaits(b, c.name)
	case "who":
		return list(saidWho(b, c.name))
	}
	panic("no such line: " + c.word)
}

// saidLine is the book behind a line, and its answer.
func saidLine(b impl.ShareBook, line string) (impl.ShareBook, string) {
	c, ok := lineCall(line)
	if !ok {
		return b, "bad"
	}
	switch c.word {
	case "things":
		if laid := (impl.ShareBook{Things: c.names}); saidOk(laid) {
			return laid, "ok"
		}
		return b, "no"
	case "enter", "ask", "less", "leave":
		after, code := c.said(b)
		return after, fmt.Sprintf("code %d", code)
	}
	names := saidNames(b, c)
	if len(names) == 0 || len(names) == 1 && names[0] == "" {
		return b, "none"
	}
	return b, strings.Join(names, " ")
}

// saidSession is the answer to a text.
func saidSession(text string) string {
	if len(text) > 8000 || strings.Count(strings.TrimSuffix(text, "\n"), "\n") > 199 {
		return "too long\n"
	}
	var b impl.ShareBook
	var told string
	for text != "" {
		line, rest, _ := strings.Cut(text, "\n")
		var answer string
		b, answer = saidLine(b, line)
		told += answer + "\n"
		text = rest
	}
	return told
}
