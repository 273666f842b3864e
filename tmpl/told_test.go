package tmpl

import (
	"regexp"
	"slices"
	"strconv"
	"strings"

	"escritoire/api"
	"escritoire/digits"
	"escritoire/expr"
	"escritoire/lex"
)

// What 17.1 and 17.2 ask, told another way than the program goes: token by token, from one place of the grammar to the next; then statement by statement.

// kept is the words that are no names, but those for numbers.
var kept = []string{"struct", "bytes", "when", "size", "count", "check"}

// numbers is the words for numbers.
var numbers = []string{"u8", "i8", "u16le", "u16be", "i16le", "i16be", "u32le", "u32be", "i32le", "i32be", "i64le", "i64be"}

// leads is, of each place of the grammar, which tokens may stand there, and to which place each leads.
var leads = map[string]map[string]string{
	"types":       {"struct": "type name"},
	"type name":   {"NAME": "open"},
	"open":        {"{": "item"},
	"item":        {"}": "item", "when": "expr {", "bytes": "bytes name", "NUM": "num name", "NAME": "part name"},
	"bytes name":  {"NAME": "["},
	"[":           {"[": "expr ]"},
	"num name":    {"NAME": "num tail"},
	"num tail":    {";": "item", "[": "expr ]", "=": "rule"},
	"part name":   {"NAME": "part tail"},
	"part tail":   {";": "item", "[": "expr ]"},
	"rule":        {"size": "first", "count": "first", "check": "check first"},
	"first":       {"NAME": ";"},
	"check first": {"NAME": "check last"},
	"check last":  {"NAME": ";", ";": "item"},
	";":           {";": "item"},
}

// class is what a token is in the grammar: itself, if it has no name there.
func class(text string) string {
	switch {
	case slices.Contains(numbers, text):
		return "NUM"
	case lex.Name(text) && !slices.Contains(kept, text):
		return "NAME"
	}
	return text
}

// walk is where one is in a template.
type walk struct {
	state string
	types int
	items []int // of each block that is open: how many items began
	due   bool  // in an expression: a number or a name
	deep  int   // in an expression: open brackets
}

// limit: would a token be too much where it stands?
func (w *walk) limit(text string) bool {
	switch w.state {
	case "types":
		return text == "struct" && w.types == 8
	case "item":
		return text != "}" && w.items[len(w.items)-1] == 16
	case "open":
		return text == "{" && len(w.items) == 8
	case "expr {":
		return text == "{" && !w.due && w.deep == 0 && len(w.items) == 8
	}
	return false
}

// step goes on by one token: OK, or what is wrong with it.
func (w *walk) step(text string) api.Errno {
	if w.limit(text) {
		return api.ErrLimit
	}
	if end, ok := strings.CutPrefix(w.state, "expr "); ok {
		if w.due || w.deep > 0 || text != end {
			return w.inExpr(text)
		}
		w.state = ";"
		if end == "{" {
			w.state, w.items = "item", append(w.items, 0)
		}
		return api.OK
	}
	from, to := w.state, leads[w.state][class(text)]
	switch {
	case to == "":
		return api.ErrForm
	case class(text) == "NAME" && len(text) > 12:
		return api.ErrLimit
	case text == "{":
		w.items = append(w.items, 0)
	case text == "struct":
		w.types++
	case text == "}":
		w.items = w.items[:len(w.items)-1]
		if len(w.items) == 0 {
			to = "types"
		}
	case from == "item":
		w.items[len(w.items)-1]++
	}
	w.state, w.due, w.deep = to, true, 0
	return api.OK
}

// inExpr goes on by one token in an expression.
func (w *walk) inExpr(text string) api.Errno {
	first := text[0]
	switch {
	case w.due && lex.Name(text):
		if len(text) > 12 {
			return api.ErrLimit
		}
		w.due = false
	case w.due && first >= '0' && first <= '9':
		w.due = false
		_, err := digits.Number(text)
		return api.Tell(err)
	case w.due && first == '(':
		if w.deep == 8 {
			return api.ErrLimit
		}
		w.deep++
	case !w.due && first == ')' && w.deep > 0:
		w.deep--
	case !w.due && slices.Contains([]string{"==", "!=", "<", ">", "+", "-", "|", "*", "&"}, text):
		w.due = true
	default:
		return api.ErrForm
	}
	return api.OK
}

// errorTold is what is wrong with a text, and where.
func errorTold(s string) (api.Errno, int) {
	l, err := lex.Lex(s)
	if err != nil {
		return place(err)
	}
	w := &walk{state: "types"}
	for _, t := range l {
		if e := w.step(t.Text); e != api.OK {
			return e, t.At
		}
	}
	switch {
	case w.state == "types":
		return api.OK, -1
	case w.limit(""):
		return api.ErrLimit, len(s)
	}
	return api.ErrForm, len(s)
}

// statements is a template's tokens, cut behind each `;`, `{` and `}`.
func statements(s string) [][]api.Token {
	l, _ := lex.Lex(s)
	var all [][]api.Token
	for len(l) > 0 {
		n := 1 + slices.IndexFunc(l, func(t api.Token) bool { return strings.Contains(";{}", t.Text) })
		all = append(all, l[:n])
		l = l[n:]
	}
	return all
}

// typesTold is the structs of a text with which nothing is wrong.
func typesTold(s string) []api.Type {
	all := statements(s)
	var l []api.Type
	for len(all) > 0 {
		t := api.Type{Name: all[0][1].Text, At: all[0][1].At}
		t.Items, all = itemsTold(all[1:])
		l = append(l, t)
	}
	return l
}

// itemsTold is the items up to the bracket that closes them, and the statements behind it.
func itemsTold(all [][]api.Token) ([]api.Item, [][]api.Token) {
	var l []api.Item
	for all[0][0].Text != "}" {
		now := all[0]
		all = all[1:]
		x := api.Item{At: now[0].At}
		if now[0].Text == "when" {
			x.Kind, x.Count = api.When, exprTold(now[1:len(now)-1])
			x.Items, all = itemsTold(all)
		} else {
			partTold(&x, now)
		}
		l = append(l, x)
	}
	return l, all[1:]
}

var numberForm = regexp.MustCompile(`^([ui])(8|16|32|64)(le|be)?$`)

// numberTold is what the parts of a word for numbers say; nil, if it is none.
func numberTold(word string) []string {
	if !slices.Contains(numbers, word) {
		return nil
	}
	return numberForm.FindStringSubmatch(word)
}

// partTold is an item of a statement that isn't a when.
func partTold(x *api.Item, now []api.Token) {
	x.Kind, x.Name = api.Struct, now[1].Text
	if now[0].Text == "bytes" {
		x.Kind = api.Bytes
	} else if m := numberTold(now[0].Text); m != nil {
		bits, _ := strconv.Atoi(m[2])
		x.Kind, x.Width, x.Signed = api.Scalar, bits/8, m[1] == "i"
		if m[3] == "be" {
			x.Order = api.Big
		}
	} else {
		x.Type = now[0].Text
	}
	tail := now[2 : len(now)-1]
	switch {
	case len(tail) > 0 && tail[0].Text == "[":
		x.Many, x.Count = x.Kind != api.Bytes, exprTold(tail[1:len(tail)-1])
	case len(tail) > 0:
		x.Rule = map[string]int{"size": api.Size, "count": api.Count, "check": api.Check}[tail[1].Text]
		x.First = tail[2].Text
		if x.Rule == api.Check {
			x.Last = tail[len(tail)-1].Text
		}
	}
}

// exprTold is the expression of some tokens: read of them alone, then each part put where its token stands.
func exprTold(l []api.Token) *api.Expr {
	var at []int
	s := ""
	for _, t := range l {
		for range len(t.Text) + 1 {
			at = append(at, t.At)
		}
		s += t.Text + " "
	}
	x, _ := expr.Parse(s)
	var move func(x *api.Expr)
	move = func(x *api.Expr) {
		if x != nil {
			x.At = at[x.At]
			move(x.Left)
			move(x.Right)
		}
	}
	move(x)
	return x
}

// printTold is what Print must tell of a text with which nothing is wrong.
func printTold(s string) string {
	out, ahead := "", ""
	for _, now := range statements(s) {
		if now[0].Text == "}" {
			ahead = ahead[2:]
		}
		out += ahead + line(now) + "\n"
		if now[len(now)-1].Text == "{" {
			ahead += "  "
		}
	}
	return out
}

// line is a statement as Print has it.
func line(now []api.Token) string {
	var words []string
	for _, t := range now {
		words = append(words, t.Text)
	}
	n := len(words)
	if words[0] == "when" {
		return "when " + expr.Text(exprTold(now[1:n-1])) + " {"
	}
	if n > 3 && words[2] == "[" {
		return words[0] + " " + words[1] + "[" + expr.Text(exprTold(now[3:n-2])) + "];"
	}
	if n == 7 && words[4] == words[5] {
		words = slices.Delete(words, 5, 6)
	}
	return strings.ReplaceAll(strings.Join(words, " "), " ;", ";")
}
