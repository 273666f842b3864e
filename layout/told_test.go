package layout

import (
	"math/big"
	"slices"

	"escritoire/api"
	"escritoire/expr"
)

// What 19.1 and 19.2 ask, told another way than the program goes: what is still to be read, or written, lies in a heap, from which the next one is taken; each node knows in which one it lies, so that numbers which are seen are found from the node that asks for them; how many bytes a node has is summed up in the end.

// numberOf is a struct's number: -1, if none is called so.
func numberOf(l []api.Type, name string) int {
	return slices.IndexFunc(l, func(t api.Type) bool { return t.Name == name })
}

// due is an item of which a node is still to be read: all of it, or one of many; and the number of the node in which it lies.
type due struct {
	item api.Item
	one  bool
	in   int
}

// lying is a node that was begun, without its Kids, and the number of that in which it lies.
type lying struct {
	api.Node
	in   int
	seen bool // may expressions ask for it?
}

// readTold reads a text, and tells an error and its place (-1: none), too.
func readTold(l []api.Type, root, s string) (api.Node, api.Errno, int) {
	if numberOf(l, root) < 0 {
		return api.Node{}, api.ErrMissing, -1
	}
	var all []lying
	at := 0
	heap := []due{{api.Item{Kind: api.Struct, Name: root, Type: root}, true, -1}}
	for len(heap) > 0 {
		next := heap[len(heap)-1]
		heap = heap[:len(heap)-1]
		if len(all) == api.MaxNodes {
			return api.Node{}, api.ErrLimit, at
		}
		n, inner, took, ok := beginTold(l, all, next, s[at:])
		if !ok {
			return api.Node{}, api.ErrForm, at
		}
		for i := range inner {
			inner[i].in = len(all)
		}
		slices.Reverse(inner)
		heap = append(heap, inner...)
		n.At, n.Size, n.Name = at, took, next.item.Name
		all = append(all, lying{n, next.in, next.item.Kind == api.Scalar && !next.item.Many})
		at += took
	}
	if at != len(s) {
		return api.Node{}, api.ErrForm, at
	}
	return treeTold(all), api.OK, -1
}

// beginTold is a node of what is due, where a text goes on so, what is due in it, and how many bytes it takes of its own; false: there are fewer, or it would be fewer than 0.
func beginTold(l []api.Type, all []lying, next due, s string) (n api.Node, inner []due, took int, ok bool) {
	x := next.item
	n.Kind = x.Kind
	if x.Many && !next.one {
		n.Kind = api.List
		count := countTold(all, next)
		// More than MaxNodes can't begin, however many there are to be.
		for range min(count, api.MaxNodes+1) {
			inner = append(inner, due{item: x, one: true})
		}
		return n, inner, 0, count >= 0
	}
	var items []api.Item
	switch x.Kind {
	case api.Scalar:
		took = x.Width
		if took <= len(s) {
			n.N = numberTold(s[:took], x.Order, x.Signed)
		}
	case api.Bytes:
		took = countTold(all, next)
		if took >= 0 && took <= len(s) {
			n.Text = s[:took]
		}
	case api.Struct:
		items = l[numberOf(l, x.Type)].Items
	case api.When:
		if countTold(all, next) != 0 {
			n.N = 1
			items = x.Items
		}
	}
	for _, y := range items {
		inner = append(inner, due{item: y})
	}
	return n, inner, took, took >= 0 && took <= len(s)
}

// numberTold is the number of bytes, reckoned as a number of any size.
func numberTold(s string, order int, signed bool) int {
	n := new(big.Int)
	for i := range len(s) {
		c := s[i]
		if order == api.Little {
			c = s[len(s)-1-i]
		}
		n.Add(n.Lsh(n, 8), big.NewInt(int64(c)))
	}
	all := new(big.Int).Lsh(big.NewInt(1), uint(8*len(s)))
	if twice := new(big.Int).Lsh(n, 1); signed && twice.Cmp(all) >= 0 {
		n.Sub(n, all)
	}
	return int(n.Int64())
}

// countTold is what the Count of what is due comes to, by what lies in the same block, and in those about it, up to their struct's.
func countTold(all []lying, next due) int {
	names := map[string]int{}
	for in := next.in; ; in = all[in].in {
		for _, n := range all {
			if n.in == in && n.seen {
				names[n.Name] = n.N
			}
		}
		if all[in].Kind == api.Struct {
			break
		}
	}
	n, err := expr.Eval(next.item.Count, names)
	if err != nil {
		panic(err)
	}
	return n
}

// treeTold is nodes, each with those that lie in it.
func treeTold(all []lying) api.Node {
	for i := len(all) - 1; i > 0; i-- {
		about := &all[all[i].in].Node
		about.Kids = slices.Insert(about.Kids, 0, all[i].Node)
		about.Size += all[i].Size
	}
	return all[0].Node
}

// put is an item of which a node is still to be written: all of it, or one of many; and that node.
type put struct {
	item api.Item
	one  bool
	node api.Node
}

// writeTold writes a tree.
func writeTold(l []api.Type, root string, n api.Node) (string, api.Errno) {
	if numberOf(l, root) < 0 {
		return "", api.ErrMissing
	}
	s := ""
	heap := []put{{api.Item{Kind: api.Struct, Name: root, Type: root}, true, n}}
	for len(heap) > 0 {
		next := heap[0]
		inner, text, ok := putTold(l, next)
		if !ok {
			return "", api.ErrArg
		}
		s += text
		heap = append(inner, heap[1:]...)
	}
	return s, api.OK
}

// putTold is what is still to be written of a node, and its own bytes; false: it is none of its item's.
func putTold(l []api.Type, next put) (inner []put, text string, ok bool) {
	x, n := next.item, next.node
	kind := x.Kind
	if x.Many && !next.one {
		kind = api.List
	}
	if n.Kind != kind || n.Name != x.Name {
		return nil, "", false
	}
	var items []api.Item
	switch kind {
	case api.List:
		for _, k := range n.Kids {
			inner = append(inner, put{x, true, k})
		}
		return inner, "", true
	case api.Scalar:
		text, ok = bytesTold(n.N, x)
		return nil, text, ok
	case api.Bytes:
		return nil, n.Text, true
	case api.Struct:
		items = l[numberOf(l, x.Type)].Items
	case api.When:
		if n.N != 0 {
			items = x.Items
		}
	}
	if len(items) != len(n.Kids) {
		return nil, "", false
	}
	for i := range items {
		inner = append(inner, put{item: items[i], node: n.Kids[i]})
	}
	return inner, "", true
}

// endsTold is the least and the greatest number that so many bytes tell.
func endsTold(width int, signed bool) (least, most *big.Int) {
	all := new(big.Int).Lsh(big.NewInt(1), uint(8*width))
	least = new(big.Int)
	if signed {
		least.Neg(new(big.Int).Rsh(all, 1))
	}
	most = new(big.Int).Add(least, all)
	return least, most.Sub(most, big.NewInt(1))
}

// bytesTold is a number's bytes; false: they don't tell it.
func bytesTold(n int, x api.Item) (string, bool) {
	left := big.NewInt(int64(n))
	least, most := endsTold(x.Width, x.Signed)
	if left.Cmp(least) < 0 || left.Cmp(most) > 0 {
		return "", false
	}
	var b []byte
	for range x.Width {
		// Div rounds down, so that what is left over is from 0 on.
		low := new(big.Int)
		left.DivMod(left, big.NewInt(256), low)
		b = append(b, byte(low.Int64()))
	}
	if x.Order == api.Big {
		slices.Reverse(b)
	}
	return string(b), true
}
