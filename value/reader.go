package value

import (
	"math"
	"strings"

	"ramble/api"
	"ramble/num"
)

// reader reads a text from the left. If the text is open, more may stand behind its end: there the reader puts what
// makes the value one that may be, by the limits of lengths, depth and ids, and each key the greatest such one,
// whose text begins so. (Only keys must rise, so that elsewhere there is no need for the greatest.)
type reader struct {
	text string
	at   int
	open bool
	keys int // how many keys, one within the other, are being read
}

// place is where a reader gave up.
type place int

func (r *reader) giveUp() { panic(place(r.at)) }

func (r *reader) ended() bool { return r.at == len(r.text) }

// cut tells whether the text ends here, where more must stand: an open one may, another is given up.
func (r *reader) cut() bool {
	if r.ended() && !r.open {
		r.giveUp()
	}
	return r.ended()
}

// word passes over w.
func (r *reader) word(w string) {
	for i := range len(w) {
		if r.cut() {
			return
		}
		if r.text[r.at] != w[i] {
			r.giveUp()
		}
		r.at++
	}
}

// greatest is the value above which none stands.
func greatest() api.Value { return Edge(api.MaxId) }

// value reads a value that stands that deep.
func (r *reader) value(deep int) api.Value {
	if r.cut() {
		return greatest()
	}
	c := r.text[r.at]
	if c == '?' {
		r.at++
		return api.Value{}
	}
	if deep > api.MaxDeep {
		// Text tells nothing but ? so deep.
		r.giveUp()
	}
	switch c {
	case '\'':
		return r.str()
	case 't':
		r.word("true")
		return Bool(true)
	case 'f':
		r.word("false")
		return Bool(false)
	case '[':
		return r.list(deep)
	case '{':
		return r.pairs(deep)
	case 'v':
		return Vertex(r.id("v["))
	case 'e':
		return Edge(r.id("e["))
	}
	return Int(r.number(math.MaxInt64))
}

func (r *reader) id(head string) int64 {
	r.word(head)
	n := r.number(api.MaxId)
	r.word("]")
	return n
}

// number reads a whole number; one that the text's end cuts is put the greatest that is limit at most.
func (r *reader) number(limit int64) int64 {
	from := r.at
	if !r.ended() && r.text[r.at] == '-' {
		r.at++
	}
	if r.cut() {
		if r.at > from {
			return -1
		}
		return limit
	}
	if !isDigit(r.text[r.at]) {
		r.giveUp()
	}
	n := r.digits(from)
	if r.ended() && r.open {
		return widest(n, limit)
	}
	return n
}

// digits reads all digits that stand here, of a number that begins at from, as long as they are those of an int64.
func (r *reader) digits(from int) int64 {
	var n int64
	for !r.ended() && isDigit(r.text[r.at]) {
		longer, e := num.Parse(r.text[from : r.at+1])
		if e != api.OK {
			r.giveUp()
		}
		n = longer
		r.at++
	}
	return n
}

// widest is the greatest number up to limit that begins with n's digits; n, if there is none.
func widest(n, limit int64) int64 {
	if n <= 0 || n > limit {
		return n
	}
	span := int64(1)
	for n <= limit/10 {
		n *= 10
		span *= 10
	}
	return n + min(span-1, limit-n)
}

func (r *reader) str() api.Value {
	r.word("'")
	var b []byte
	for !r.cut() {
		if r.text[r.at] == '\'' {
			r.at++
			return Str(string(b))
		}
		b = append(b, r.char())
	}
	for r.keys > 0 && len(b) < api.MaxText {
		b = append(b, math.MaxUint8)
	}
	return Str(string(b))
}

// char reads a byte of a string.
func (r *reader) char() byte {
	c := r.text[r.at]
	if hasNoSign(c) {
		r.giveUp()
	}
	r.at++
	if c != '\\' {
		return c
	}
	if r.cut() {
		return math.MaxUint8
	}
	c = r.text[r.at]
	if c == '\'' || c == '\\' {
		r.at++
		return c
	}
	r.word("x")
	return r.hidden()
}

// hidden reads the two digits of a byte that can't be seen.
func (r *reader) hidden() byte {
	if r.cut() {
		return math.MaxUint8
	}
	high := r.hexDigit() << 4
	if !hasNoSign(high) && !hasNoSign(high|15) {
		r.giveUp()
	}
	r.at++
	if r.cut() {
		return high | 15
	}
	c := high | r.hexDigit()
	if !hasNoSign(c) {
		r.giveUp()
	}
	r.at++
	return c
}

func (r *reader) hexDigit() byte {
	d := strings.IndexByte(hexDigits, r.text[r.at])
	if d < 0 {
		r.giveUp()
	}
	return byte(d)
}

// What comes next in a list or a map.
const (
	another = iota // another one
	closed         // nothing: it was closed
	missing        // the end of a text that is open
)

// next goes to another one, if there is one, of which some have been read.
func (r *reader) next(end byte, some bool) int {
	if r.cut() {
		return missing
	}
	if r.text[r.at] == end {
		r.at++
		return closed
	}
	if some {
		r.word(", ")
	}
	return another
}

func (r *reader) list(deep int) api.Value {
	r.word("[")
	var l []api.Value
	how := r.next(']', false)
	for ; how == another; how = r.next(']', true) {
		l = append(l, r.value(deep+1))
	}
	for how == missing && r.keys > 0 && deep < api.MaxDeep && len(l) < api.MaxList {
		l = append(l, greatest())
	}
	return api.Value{Kind: api.VList, L: l}
}

func (r *reader) pairs(deep int) api.Value {
	r.word("{")
	var l []api.Value
	how := r.next('}', false)
	for ; how == another; how = r.next('}', true) {
		key := r.key(deep + 1)
		r.word(": ")
		l = append(l, key, r.value(deep+1))
	}
	if how == missing && deep < api.MaxDeep && roomForGreatest(l) {
		l = append(l, greatest(), greatest())
	}
	return api.Value{Kind: api.VMap, L: l}
}

func (r *reader) key(deep int) api.Value {
	r.keys++
	v := r.value(deep)
	r.keys--
	return v
}

// roomForGreatest tells whether behind a map's keys and values the greatest key may stand.
func roomForGreatest(l []api.Value) bool {
	return len(l) == 0 || len(l) < 2*api.MaxList && Compare(l[len(l)-2], greatest()) < 0
}
