package tests

import (
	"slices"

	"loop.example/maltshare/impl"
)

// list is a shorter way to write a list of names.
func list(names ...string) []string {
	return names
}

// batch is a batch of this name that has and needs these.
func batch(name string, has, needs []string) impl.ShareBatch {
	return impl.ShareBatch{Name: name, Has: has, Needs: needs}
}

// brewBook is a safe book: b can go, then ale, then dark.
func brewBook() impl.ShareBook {
	return impl.ShareBook{
		Things: list("keg", "pipe", "tun", "vat"),
		Batches: []impl.ShareBatch{
			batch("ale", list("keg"), list("keg", "tun")),
			batch("b", list("tun"), list("tun", "vat")),
			batch("dark", nil, list("keg", "pipe", "vat")),
		},
	}
}

// ringBook is a book that is ok, but in which each waits on the next.
func ringBook() impl.ShareBook {
	b := brewBook()
	b.Batches[2].Has = list("vat")
	return b
}

// halfStuckBook is ringBook and one beside the ring, who can move.
func halfStuckBook() impl.ShareBook {
	b := ringBook()
	b.Batches = append(b.Batches, batch("e", list("pipe"), list("pipe")))
	return b
}

// fullBook meets every limit of books at once.
func fullBook() impl.ShareBook {
	var b impl.ShareBook
	for _, end := range "abcdefgh" {
		b.Things = append(b.Things, "thing-0"+string(end))
	}
	for i, end := range "vwxyz" {
		b.Batches = append(b.Batches, batch("batch-9"+string(end), list(b.Things[i]), slices.Clone(b.Things)))
	}
	b.Batches[4].Has = slices.Clone(b.Things[4:])
	return b
}

// copyBook is the same book in memory of its own.
func copyBook(b impl.ShareBook) impl.ShareBook {
	c := impl.ShareBook{Things: slices.Clone(b.Things), Batches: slices.Clone(b.Batches)}
	for i := range c.Batches {
		c.Batches[i].Has = slices.Clone(c.Batches[i].Has)
		c.Batches[i].Needs = slices.Clone(c.Batches[i].Needs)
	}
	return c
}

// numbers is a row of numbers that look mixed, and are the same in each run.
type numbers uint64

// below is the next number, from 0 to n-1.
func (r *numbers) below(n int) int {
	*r = *r*6364136223846793005 + 1442695040888963407
	return int(uint64(*r)>>33) % n
}

// picked is some of a list, each with one chance in odds.
func (r *numbers) picked(from []string, odds int) []string {
	var some []string
	for _, name := range from {
		if r.below(odds) == 0 {
			some = append(some, name)
		}
	}
	return some
}

// okBook is a book that is ok, with so many things and batches.
func (r *numbers) okBook(things, batches int) impl.ShareBook {
	b := impl.ShareBook{Things: list("-", "0", "a", "aa", "b", "keg", "tun", "vat")[:things]}
	free := slices.Clone(b.Things)
	for _, name := range list("a", "b", "c", "d", "e")[:batches] {
		needs := r.picked(b.Things, 2)
		var has []string
		for _, thing := range needs {
			if i := slices.Index(free, thing); i >= 0 && r.below(3) == 0 {
				has = append(has, thing)
				free = slices.Delete(free, i, i+1)
			}
		}
		b.Batches = append(b.Batches, batch(name, has, needs))
	}
	return b
}

// wildBook is a book that was ok, with a few things in it set at will.
func (r *numbers) wildBook() impl.ShareBook {
	b := copyBook(r.okBook(r.below(9), r.below(6)))
	words := list("", "-", "a", "aa", "b", "keg", "z", "A", "\xff", "\u0161", "123456789", "12345678")
	for range r.below(4) {
		lists := []*[]string{&b.Things}
		for i := range b.Batches {
			lists = append(lists, &b.Batches[i].Has, &b.Batches[i].Needs)
		}
		at := lists[r.below(len(lists))]
		switch r.below(4) {
		case 0:
			*at = append(*at, words[r.below(len(words))])
		case 1:
			*at = slices.Insert(*at, r.below(len(*at)+1), words[r.below(len(words))])
		case 2:
			if len(*at) > 0 {
				(*at)[r.below(len(*at))] = words[r.below(len(words))]
			}
		case 3:
			if len(b.Batches) > 0 {
				b.Batches[r.below(len(b.Batches))].Name = words[r.below(len(words))]
			}
		}
	}
	return b
}

// smallBooks calls see with every book that is ok of so many things and batches.
func smallBooks(things, batches int, see func(b impl.ShareBook)) {
	all := list("keg", "tun", "vat")[:things]
	names := list("a", "b", "c", "d")[:batches]
	var give func(b impl.ShareBook, thing int)
	give = func(b impl.ShareBook, thing int) {
		if thing == len(all) {
			see(copyBook(b))
			return
		}
		give(b, thing+1)
		for i := range b.Batches {
			if slices.Contains(b.Batches[i].Needs, all[thing]) {
				c := copyBook(b)
				c.Batches[i].Has = append(c.Batches[i].Has, all[thing])
				give(c, thing+1)
			}
		}
	}
	var need func(b impl.ShareBook)
	need = func(b impl.ShareBook) {
		if len(b.Batches) == batches {
			give(b, 0)
			return
		}
		for set := range 1 << things {
			var needs []string
			for i, thing := range all {
				if set>>i&1 == 1 {
					needs = append(needs, thing)
				}
			}
			c := copyBook(b)
			c.Batches = append(c.Batches, batch(names[len(b.Batches)], nil, needs))
			need(c)
		}
	}
	need(impl.ShareBook{Things: all})
}
