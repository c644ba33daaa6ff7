// Package dialect has what the dialects share: a parser that keeps why it stopped, clauses that more than one of them has, read and written, and which queries no dialect says.
package dialect

import (
	"slices"
	"strconv"
	"strings"

	"haruspex/api"
	"haruspex/cond"
	"haruspex/lex"
	"haruspex/pat"
	"haruspex/query"
)

var modes = [api.MStrict + 1]string{api.MAny: "ANY", api.MNear: "NEAR", api.MStrict: "STRICT"}

// items are the words of the kinds of items; no kind is 0.
var items = [api.ISum + 1]string{api.IFirst: "FIRST", api.ILast: "LAST", api.ICount: "COUNT", api.ISum: "SUM"}

// Parser reads the text of a query. Whatever reads tells whether it could; where and why it could not is kept here.
type Parser struct {
	*lex.Reader
	open int // how many ( of the pattern
	at   int // of what is refused
	e    api.Errno
}

// Read answers the query that whole reads of a text, up to its end.
func Read(s string, whole func(*Parser, *api.Query) bool) (api.Query, int, api.Errno) {
	r, at, e := lex.New(s)
	if e != api.OK {
		return api.Query{}, at, e
	}
	p := Parser{Reader: r}
	var q api.Query
	if !whole(&p, &q) || !p.Must(p.Peek().K == api.TEnd) {
		return api.Query{}, p.at, p.e
	}
	if e := Right(q); e == api.ErrLong {
		return api.Query{}, 0, e
	} else if e != api.OK {
		return api.Query{}, 0, api.ErrForm
	}
	return q, len(s), api.OK
}

func (p *Parser) Refuse(at int, e api.Errno) bool {
	p.at, p.e = at, e
	return false
}

// Must refuses the next token, if it is not what must come, and so was not taken.
func (p *Parser) Must(taken bool) bool { return taken || p.Refuse(p.At(), api.ErrForm) }

func (p *Parser) MustName(to *string) bool {
	name, ok := p.Name()
	*to = name
	return p.Must(ok)
}

// MustInt has its place ahead of it, as a number below the least one is taken.
func (p *Parser) MustInt(least, most int64, to *int64) bool {
	at := p.At()
	n, ok := p.Int(most)
	*to = n
	return ok && n >= least || p.Refuse(at, api.ErrForm)
}

// Enclosed reads a (, what stands behind it, and its ).
func (p *Parser) Enclosed(part func() (api.Pat, bool)) (api.Pat, bool) {
	at := p.At()
	if !p.Must(p.Sign("(")) {
		return api.Pat{}, false
	}
	if p.open == api.MaxNodes {
		return api.Pat{}, p.Refuse(at, api.ErrLong)
	}
	p.open++
	x, ok := part()
	p.open--
	return x, ok && p.Must(p.Sign(")"))
}

// Many makes x a PMany, if how many there are stands behind it; alone tells whether one number may stand for both.
func (p *Parser) Many(x *api.Pat, alone bool) bool {
	switch {
	case p.Sign("+"):
		x.K, x.Lo = api.PMany, 1
	case p.Sign("{"):
		var lo, hi int64
		ok := p.counts(&lo, &hi, alone)
		x.K, x.Lo, x.Hi = api.PMany, int(lo), int(hi)
		return ok
	}
	return true
}

// counts reads what stands behind a { that was taken.
func (p *Parser) counts(lo, hi *int64, alone bool) bool {
	if !p.MustInt(1, api.MaxMany, lo) {
		return false
	}
	if alone && p.Sign("}") {
		*hi = *lo
		return true
	}
	return p.Must(p.Sign(",")) && (p.Sign("}") || p.MustInt(1, api.MaxMany, hi) && p.Must(p.Sign("}")))
}

// Row reads one, and then others, as long as more tells that one must come.
func Row[T any](one func() (T, bool), more func() bool) ([]T, bool) {
	var l []T
parts:
	for {
		x, ok := one()
		l = append(l, x)
		switch {
		case !ok:
			return nil, false
		case !more():
			break parts
		}
	}
	return l, true
}

// Join makes one pattern of parts of that kind; those that are of it themselves are joined already.
func Join(k int, l []api.Pat) api.Pat {
	if len(l) == 1 {
		return l[0]
	}
	x := api.Pat{K: k}
	for _, part := range l {
		if part.K == k {
			x.L = append(x.L, part.L...)
		} else {
			x.L = append(x.L, part)
		}
	}
	return x
}

// Clause is read behind its word.
type Clause struct {
	Word string
	Read func(*api.Query) bool
}

// Clauses reads those of l that stand there, in that order.
func (p *Parser) Clauses(q *api.Query, l ...Clause) bool {
	for _, c := range l {
		if p.Word(c.Word) && !c.Read(q) {
			return false
		}
	}
	return true
}

func (p *Parser) Where(q *api.Query) bool {
	x, at, e := cond.Parse(p.Reader)
	if e != api.OK {
		return p.Refuse(at, e)
	}
	q.Where = query.Where(x)
	return true
}

func (p *Parser) Partition(q *api.Query) bool { return p.Must(p.Word("BY")) && p.MustName(&q.Key) }

// Mode takes the word of a mode that is not below the least one.
func (p *Parser) Mode(q *api.Query, least int) bool {
	for q.Mode = least; q.Mode <= api.MStrict; q.Mode++ {
		if p.Word(modes[q.Mode]) {
			return true
		}
	}
	return p.Must(false)
}

func (p *Parser) Within(q *api.Query) bool { return p.MustInt(1, api.MaxWithin, &q.Within) }

func (p *Parser) Items(q *api.Query) bool {
	l, ok := Row(p.item, func() bool { return p.Sign(",") })
	q.Items = l
	return ok
}

func (p *Parser) item() (api.Item, bool) {
	var x api.Item
	ok := p.itemKind(&x) && p.Must(p.Sign("(")) && p.MustName(&x.Var)
	if x.K != api.ICount {
		ok = ok && p.Must(p.Sign(".")) && p.MustName(&x.Field)
	}
	ok = ok && p.Must(p.Sign(")")) && p.Must(p.Word("AS")) && p.MustName(&x.Name)
	return x, ok
}

func (p *Parser) itemKind(x *api.Item) bool {
	for x.K = api.IFirst; x.K <= api.ISum; x.K++ {
		if p.Word(items[x.K]) {
			return true
		}
	}
	return p.Must(false)
}

// Right tells why no dialect says a query.
func Right(q api.Query) api.Errno {
	if e := query.Check(q); e != api.OK {
		return e
	}
	return pat.Made(q.P)
}

// Has tells whether p, or a part of it, is such a node.
func Has(p api.Pat, such func(api.Pat) bool) bool {
	return such(p) || slices.ContainsFunc(p.L, func(part api.Pat) bool { return Has(part, such) })
}

// CountsText is how many of a PMany there are, in two numbers.
func CountsText(lo, hi int) string {
	switch {
	case hi != 0:
		return "{" + strconv.Itoa(lo) + "," + strconv.Itoa(hi) + "}"
	case lo != 1:
		return "{" + strconv.Itoa(lo) + ",}"
	}
	return "+"
}

// Text has the clauses that are not empty with a blank between.
func Text(l ...string) string {
	return strings.Join(slices.DeleteFunc(l, func(s string) bool { return s == "" }), " ")
}

// ClauseText is empty, if a clause says nothing.
func ClauseText(word, s string) string {
	if s == "" {
		return ""
	}
	return word + " " + s
}

// WhereText takes conditions that are right: of none Row has an error, and no text.
func WhereText(l []api.Expr) string {
	s, _ := cond.Row(l)
	return s
}

func ModeText(mode int) string { return modes[mode] }

func WithinText(n int64) string {
	if n == 0 {
		return ""
	}
	return strconv.FormatInt(n, 10)
}

func ItemsText(l []api.Item) string {
	var texts []string
	for _, x := range l {
		of := x.Var
		if x.K != api.ICount {
			of += "." + x.Field
		}
		texts = append(texts, items[x.K]+"("+of+") AS "+x.Name)
	}
	return strings.Join(texts, ", ")
}
