package fix

import (
	"fmt"
	"hash/crc32"
	"math/big"
	"slices"
	"strings"

	"escritoire/api"
	"escritoire/layout"
)

// What chapter 20 asks, told another way than the program goes: in no order at all: each number asks for what it hangs on, and the bytes under a sum ask for the numbers that stand there, however deep; trees are never changed, but made anew; what is the same is told by the texts that trees make.

// blockTold is a block: its items, and their nodes.
type blockTold struct {
	all   []api.Type
	items []api.Item
	nodes []api.Node
}

// blockOf is the block of a struct's nodes.
func blockOf(all []api.Type, name string, nodes []api.Node) blockTold {
	for _, t := range all {
		if t.Name == name {
			return blockTold{all, t.Items, nodes}
		}
	}
	panic("no struct is called " + name)
}

// within is the blocks in one of a block's items: none in a number, or bytes.
func (b blockTold) within(i int) []blockTold {
	x := b.items[i]
	nodes := []api.Node{b.nodes[i]}
	if x.Many {
		nodes = b.nodes[i].Kids
	}
	var l []blockTold
	for _, n := range nodes {
		if x.Kind == api.Struct {
			l = append(l, blockOf(b.all, x.Type, n.Kids))
		}
		if x.Kind == api.When && n.N != 0 {
			l = append(l, blockTold{b.all, x.Items, n.Kids})
		}
	}
	return l
}

// size is how many bytes an item has, for which no number matters.
func (b blockTold) size(i int) int {
	x, n := b.items[i], b.nodes[i]
	many := 0
	switch {
	case x.Kind == api.Scalar && x.Many:
		many = len(n.Kids) * x.Width
	case x.Kind == api.Scalar:
		many = x.Width
	case x.Kind == api.Bytes:
		many = len(n.Text)
	}
	for _, c := range b.within(i) {
		for j := range c.items {
			many += c.size(j)
		}
	}
	return many
}

// which is the number of the item that is called so.
func (b blockTold) which(name string) int {
	return slices.IndexFunc(b.items, func(x api.Item) bool { return x.Name == name })
}

// value is the number that an item is to have.
func (b blockTold) value(i int) int {
	x := b.items[i]
	switch x.Rule {
	case api.Size:
		return b.size(b.which(x.First))
	case api.Count:
		return len(b.nodes[b.which(x.First)].Kids)
	case api.Check:
		s := ""
		for j := b.which(x.First); j <= b.which(x.Last); j++ {
			s += b.text(j)
		}
		return int(crc32.ChecksumIEEE([]byte(s)))
	}
	return b.nodes[i].N
}

// text is the bytes of an item, when all is right.
func (b blockTold) text(i int) string {
	x, n := b.items[i], b.nodes[i]
	var l []string
	switch {
	case x.Kind == api.Scalar && x.Many:
		for _, k := range n.Kids {
			l = append(l, bytesTold(k.N, x))
		}
	case x.Kind == api.Scalar:
		l = append(l, bytesTold(b.value(i), x))
	case x.Kind == api.Bytes:
		l = append(l, n.Text)
	}
	for _, c := range b.within(i) {
		for j := range c.items {
			l = append(l, c.text(j))
		}
	}
	return strings.Join(l, "")
}

// fits: do all numbers fit into their bytes?
func (b blockTold) fits() bool {
	for i, x := range b.items {
		if x.Kind == api.Scalar && !x.Many && !fitsTold(b.value(i), x) {
			return false
		}
		for _, c := range b.within(i) {
			if !c.fits() {
				return false
			}
		}
	}
	return true
}

// right is the nodes of a block, its numbers as they are to be.
func (b blockTold) right() []api.Node {
	var l []api.Node
	for i, n := range b.nodes {
		x := b.items[i]
		if x.Kind == api.Scalar && !x.Many {
			n.N = b.value(i)
		}
		inner := b.within(i)
		switch {
		case x.Many && x.Kind == api.Struct:
			var kids []api.Node
			for j, k := range n.Kids {
				k.Kids = inner[j].right()
				kids = append(kids, k)
			}
			n.Kids = kids
		case len(inner) == 1:
			n.Kids = inner[0].right()
		}
		l = append(l, n)
	}
	return l
}

// endsTold is the least and the greatest number that so many bytes tell.
func endsTold(x api.Item) (least, most *big.Int) {
	all := new(big.Int).Lsh(big.NewInt(1), uint(8*x.Width))
	least = new(big.Int)
	if x.Signed {
		least.Neg(new(big.Int).Rsh(all, 1))
	}
	most = new(big.Int).Add(least, all)
	return least, most.Sub(most, big.NewInt(1))
}

// fitsTold: does an item's number of bytes tell a number?
func fitsTold(n int, x api.Item) bool {
	least, most := endsTold(x)
	v := big.NewInt(int64(n))
	return v.Cmp(least) >= 0 && v.Cmp(most) <= 0
}

// bytesTold is a number's bytes.
func bytesTold(n int, x api.Item) string {
	left := big.NewInt(int64(n))
	var b []byte
	for range x.Width {
		// DivMod rounds down, so that what is left over is from 0 on.
		low := new(big.Int)
		left.DivMod(left, big.NewInt(256), low)
		b = append(b, byte(low.Int64()))
	}
	if x.Order == api.Big {
		slices.Reverse(b)
	}
	return string(b)
}

// lookTold is all of a tree that Same asks for, as a text.
func lookTold(n api.Node) string {
	s := fmt.Sprintf("%q %d %d %q [", n.Name, n.Kind, n.N, n.Text)
	for _, k := range n.Kids {
		s += lookTold(k) + ";"
	}
	return s + "]"
}

// fixTold is a tree whose rules are done, and its text.
func fixTold(l []api.Type, root string, n api.Node) (api.Node, string, api.Errno) {
	if _, err := layout.Write(l, root, n); err != nil {
		return api.Node{}, "", api.Tell(err)
	}
	b := blockOf(l, root, n.Kids)
	if !b.fits() {
		return api.Node{}, "", api.ErrRange
	}
	n.Kids = b.right()
	all := blockTold{l, []api.Item{{Kind: api.Struct, Name: root, Type: root}}, []api.Node{n}}
	return n, all.text(0), api.OK
}

// rightTold: is a text right?
func rightTold(l []api.Type, root, s string) (bool, api.Errno, int) {
	n, err := layout.Read(l, root, s)
	if err != nil {
		e, at := spot(err)
		return false, e, at
	}
	_, t, e := fixTold(l, root, n)
	return e == api.OK && s == t, api.OK, -1
}

// finishTold is what is made of a tree in the end.
func finishTold(l []api.Type, root string, n api.Node) (string, api.Errno) {
	n, s, e := fixTold(l, root, n)
	switch {
	case e != api.OK:
		return "", e
	case len(s) > api.MaxBytes:
		return "", api.ErrFull
	}
	m, err := layout.Read(l, root, s)
	if err != nil || lookTold(m) != lookTold(n) {
		return "", api.ErrFalse
	}
	return s, api.OK
}

// toldBy is what an edit makes of a text: what it does of a part, of which it knows the node in which it lies, and whether a rule makes its number, is the nodes that stand there then.
func toldBy(l []api.Type, root, s string, path []int, do func(in api.Node, x api.Item, n api.Node) ([]api.Node, api.Errno)) (string, api.Errno, int) {
	n, err := layout.Read(l, root, s)
	if err != nil {
		e, at := spot(err)
		return "", e, at
	}
	if len(path) == 0 {
		return "", api.ErrMissing, -1
	}
	n, e := withTold(l, api.Item{Kind: api.Struct, Type: root}, n, path, do)
	if e != api.OK {
		return "", e, -1
	}
	s, e = finishTold(l, root, n)
	return s, e, -1
}

// withTold is a node with something done of a part in it.
func withTold(l []api.Type, x api.Item, n api.Node, path []int, do func(in api.Node, x api.Item, n api.Node) ([]api.Node, api.Errno)) (api.Node, api.Errno) {
	i := path[0]
	if i < 0 || i >= len(n.Kids) {
		return n, api.ErrMissing
	}
	y := x
	switch n.Kind {
	case api.Struct:
		y = blockOf(l, x.Type, nil).items[i]
	case api.When:
		y = x.Items[i]
	}
	k, e := []api.Node{}, api.OK
	if len(path) == 1 {
		k, e = do(n, y, n.Kids[i])
	} else {
		var m api.Node
		m, e = withTold(l, y, n.Kids[i], path[1:], do)
		k = append(k, m)
	}
	n.Kids = slices.Concat(n.Kids[:i], k, n.Kids[i+1:])
	return n, e
}

// setTold sets a number.
func setTold(l []api.Type, root, s string, path []int, v int) (string, api.Errno, int) {
	return toldBy(l, root, s, path, func(in api.Node, x api.Item, n api.Node) ([]api.Node, api.Errno) {
		if n.Kind != api.Scalar {
			return nil, api.ErrArg
		}
		if x.Rule != api.None {
			return nil, api.ErrState
		}
		if !fitsTold(v, x) {
			return nil, api.ErrRange
		}
		n.N = v
		return []api.Node{n}, api.OK
	})
}

// fillTold fills bytes.
func fillTold(l []api.Type, root, s string, path []int, text string) (string, api.Errno, int) {
	return toldBy(l, root, s, path, func(in api.Node, x api.Item, n api.Node) ([]api.Node, api.Errno) {
		if n.Kind != api.Bytes {
			return nil, api.ErrArg
		}
		n.Text = text
		return []api.Node{n}, api.OK
	})
}

// timesTold lets a part stand so many times in its list.
func timesTold(l []api.Type, root, s string, path []int, times int) (string, api.Errno, int) {
	return toldBy(l, root, s, path, func(in api.Node, x api.Item, n api.Node) ([]api.Node, api.Errno) {
		if in.Kind != api.List {
			return nil, api.ErrArg
		}
		return slices.Repeat([]api.Node{n}, times), api.OK
	})
}

// line is a text and an error's, as a line that is compared.
func line(s string, e api.Errno, at int) string {
	if len(s) > 300 {
		s = s[:150] + "..." + s[len(s)-150:] + fmt.Sprint(" of ", len(s), " bytes, whose sum is ", crc32.ChecksumIEEE([]byte(s)))
	}
	return strings.TrimSpace(fmt.Sprintf("%q, error %d at %d", s, e, at))
}
