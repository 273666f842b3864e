package types

import (
	"slices"
	"strings"

	"escritoire/api"
)

// What 18.1 and 18.2 ask, told another way than the program goes: every item knows ahead of what, and in which block, it stands; all that could be wrong is asked, and the first that is wrong is told.

// row is an item, and where it stands: the numbers of the whens about it, as `/2/0/`.
type row struct {
	api.Item
	block string
}

// rows is all items of a struct, one behind the other.
func rows(l []api.Item, block string) []row {
	var all []row
	for i, x := range l {
		all = append(all, row{x, block})
		if x.Kind == api.When {
			all = append(all, rows(x.Items, block+string(rune('a'+i))+"/")...)
		}
	}
	return all
}

// looked is something that was asked: an error, and its place, or api.OK.
type looked struct {
	err   api.Errno
	place int
}

// structTold is all that is asked about a struct, in its order.
type structTold struct {
	all     []row
	at      int // which of them comes next
	earlier []string
	asked   []looked
}

// ask asks whether something is wrong.
func (w *structTold) ask(wrong bool, err api.Errno, place int) {
	if wrong {
		w.asked = append(w.asked, looked{err, place})
	}
}

// seen: does a number of this name stand ahead of the item whose number is i, in its block or about it?
func (w *structTold) seen(name string, i int) bool {
	return slices.ContainsFunc(w.all[:i], func(r row) bool {
		return r.Kind == api.Scalar && !r.Many && r.Name == name && strings.HasPrefix(w.all[i].block, r.block)
	})
}

// count asks for each name in an expression of the item whose number is i.
func (w *structTold) count(x *api.Expr, i int) {
	if x == nil {
		return
	}
	w.count(x.Left, i)
	w.ask(x.Code == api.Name && !w.seen(x.Name, i), api.ErrName, x.At)
	w.count(x.Right, i)
}

// block asks all that is asked about a block.
func (w *structTold) block(l []api.Item) {
	for range l {
		i := w.at
		x := w.all[i]
		w.at++
		if x.Kind == api.When {
			w.count(x.Count, i)
			w.block(x.Items)
			continue
		}
		w.ask(slices.ContainsFunc(w.all[:i], func(r row) bool { return r.Kind != api.When && r.Name == x.Name }), api.ErrTwice, x.At)
		w.ask(x.Kind == api.Struct && !slices.Contains(w.earlier, x.Type), api.ErrMissing, x.At)
		w.count(x.Count, i)
	}
	w.rules(l)
}

// place is the number of the first item of a block that is called so; of none a number behind them all.
func place(l []api.Item, name string) int {
	for i, x := range l {
		if x.Kind != api.When && x.Name == name {
			return i
		}
	}
	return len(l)
}

// rules asks all that is asked about the rules of a block.
func (w *structTold) rules(l []api.Item) {
	for i, x := range l {
		if x.Rule == api.None {
			continue
		}
		last := x.Last
		if x.Rule != api.Check {
			last = x.First
		}
		from, to := place(l, x.First), place(l, last)
		w.ask(from == len(l) || to == len(l), api.ErrMissing, x.At)
		w.ask(x.Rule == api.Count && from < len(l) && !l[from].Many, api.ErrFalse, x.At)
		w.ask(x.Rule == api.Check && (x.Signed || x.Width != 4), api.ErrFalse, x.At)
		w.ask(to < from, api.ErrOrder, x.At)
		w.ask(from <= i && i <= to, api.ErrState, x.At)
	}
	over := overTold(l)
	for k := range l {
		for i := range l {
			for j := range l {
				over[i][j] = over[i][j] || over[i][k] && over[k][j]
			}
		}
	}
	for i, x := range l {
		w.ask(over[i][i], api.ErrCycle, x.At)
	}
}

// overTold is, of any two items of a block, whether both are Checks, and the sum of the one is taken over the other.
func overTold(l []api.Item) [][]bool {
	var all [][]bool
	for _, x := range l {
		those := make([]bool, len(l))
		for j := place(l, x.First); x.Rule == api.Check && j < len(l) && j <= place(l, x.Last); j++ {
			those[j] = l[j].Rule == api.Check
		}
		all = append(all, those)
	}
	return all
}

// checkTold is what is wrong with structs, and where.
func checkTold(l []api.Type) (api.Errno, int) {
	var earlier []string
	for _, t := range l {
		if slices.Contains(earlier, t.Name) {
			return api.ErrTwice, t.At
		}
		w := &structTold{all: rows(t.Items, "/"), earlier: earlier}
		w.block(t.Items)
		if len(w.asked) > 0 {
			return w.asked[0].err, w.asked[0].place
		}
		earlier = append(earlier, t.Name)
	}
	return api.OK, -1
}

// orderTold: is this the order of a block's rules, as 18.2 tells it? (Of blocks that Check takes: each name is one item's.)
func orderTold(l []api.Item, order []int) bool {
	over := overTold(l)
	there := make([]bool, len(l))
	may := func(i int) bool { // may it come next?
		if i == len(l) || there[i] || l[i].Rule == api.None {
			return false
		}
		for j := range l {
			// Sizes and counts come ahead of all checks; a check comes behind those over which it is.
			if !there[j] && (over[i][j] || l[i].Rule == api.Check && (l[j].Rule == api.Size || l[j].Rule == api.Count)) {
				return false
			}
		}
		return true
	}
	for _, i := range order {
		first := slices.IndexFunc(l, func(x api.Item) bool { return may(place(l, x.Name)) })
		if i != first {
			return false
		}
		there[i] = true
	}
	for i, x := range l {
		if x.Rule != api.None && !there[i] {
			return false
		}
	}
	return true
}
