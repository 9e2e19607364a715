package json

import (
	"strings"

	"codicil/api"
	"codicil/runes"
)

// The letters of the short escape sequences, and the bytes for which they stand.
const (
	shortLetters = "\"\\bfnrt"
	shortBytes   = "\"\\\b\f\n\r\t"
)

// A sequence of \u has this many bytes.
const unitBytes = 6

// parser is at a byte of a text: values counts those that have begun, open the arrays and objects that have not ended.
type parser struct {
	text   string
	at     int
	values int
	open   int
}

func Parse(s string) (v api.Value, f api.Fault) {
	defer func() {
		told := recover()
		if fault, is := told.(api.Fault); is {
			v, f = api.Value{}, fault
		} else if told != nil {
			panic(told) // no fault of the text, and not to be taken for a value
		}
	}()
	p := parser{text: s}
	return p.whole(), api.Fault{}
}

func (p *parser) whole() api.Value {
	if len(p.text) > api.MaxJSON {
		panic(p.fault(api.ErrLong))
	}
	if bad := runes.Bad(p.text); bad >= 0 {
		panic(api.Fault{At: bad, Err: api.ErrUtf})
	}
	v := p.value()
	p.take(isWhite)
	if p.at < len(p.text) {
		panic(p.fault(api.ErrMore))
	}
	return v
}

func (p *parser) value() api.Value {
	first := p.next()
	if p.values == api.MaxValues {
		panic(p.fault(api.ErrMany))
	}
	p.values++
	switch {
	case first == '-' || isDigit(rune(first)):
		return p.number()
	case isLetter(rune(first)):
		return p.word()
	case first == '[':
		return p.array()
	case first == '{':
		return p.object()
	case first == '"':
		return api.Value{Kind: api.JString, Text: p.quoted()}
	}
	panic(p.fault(api.ErrByte))
}

func (p *parser) number() api.Value {
	fault := p.fault(api.ErrNumber)
	text := p.take(isOfNumber)
	if !isNumber(text) {
		panic(fault)
	}
	return api.Value{Kind: api.JNumber, Text: strings.Clone(text)} // a piece would keep the whole text
}

func (p *parser) word() api.Value {
	fault := p.fault(api.ErrByte)
	switch p.take(isLetter) {
	case "null":
		return api.Value{Kind: api.JNull}
	case "false":
		return api.Value{Kind: api.JFalse}
	case "true":
		return api.Value{Kind: api.JTrue}
	}
	panic(fault)
}

func (p *parser) array() api.Value {
	v := api.Value{Kind: api.JArray}
	p.between(']', func() {
		v.List = append(v.List, p.value())
	})
	return v
}

func (p *parser) object() api.Value {
	v := api.Value{Kind: api.JObject}
	has := keys{}
	p.between('}', func() {
		key := p.key(has)
		p.pass(':')
		v.Keys = append(v.Keys, key)
		v.List = append(v.List, p.value())
	})
	return v
}

// between goes from an opening byte to the closing one, through items that commas separate.
func (p *parser) between(end byte, item func()) {
	if p.open == api.MaxNest {
		panic(p.fault(api.ErrNest))
	}
	p.open++
	p.at++
	if p.next() != end {
		item()
		for p.next() == ',' {
			p.at++
			item()
		}
	}
	p.pass(end)
	p.open--
}

func (p *parser) key(has keys) string {
	if p.next() != '"' {
		panic(p.fault(api.ErrByte))
	}
	fault := p.fault(api.ErrTwice)
	key := p.quoted()
	if !has.add(key) {
		panic(fault)
	}
	return key
}

func (p *parser) quoted() string {
	var b strings.Builder
	p.at++
	for {
		b.WriteString(p.take(isPlain))
		if p.at == len(p.text) {
			panic(p.fault(api.ErrEnd))
		}
		switch p.text[p.at] {
		case '"':
			p.at++
			return b.String()
		case '\\':
			b.WriteString(p.escape())
		default:
			panic(p.fault(api.ErrByte))
		}
	}
}

func (p *parser) escape() string {
	s, n := unescape(p.text[p.at:])
	if n == 0 {
		panic(p.fault(api.ErrEscape))
	}
	p.at += n
	return s
}

// next tells the first byte behind white space, and stays there.
func (p *parser) next() byte {
	p.take(isWhite)
	if p.at == len(p.text) {
		panic(p.fault(api.ErrEnd))
	}
	return p.text[p.at]
}

func (p *parser) pass(c byte) {
	if p.next() != c {
		panic(p.fault(api.ErrByte))
	}
	p.at++
}

func (p *parser) take(is func(rune) bool) string {
	from := p.at
	p.at += span(p.text[from:], is)
	return p.text[from:p.at]
}

func (p *parser) fault(e api.Errno) api.Fault {
	return api.Fault{At: p.at, Err: e}
}

// unescape tells what the escape sequence at the start of s stands for, and its number of bytes: 0 if there is none.
func unescape(s string) (string, int) {
	if len(s) < 2 {
		return "", 0
	}
	if i := strings.IndexByte(shortLetters, s[1]); i >= 0 {
		return shortBytes[i : i+1], 2
	}
	if s[1] == '/' {
		return "/", 2
	}
	r, is := unit(s)
	if !is {
		return "", 0
	}
	if point := runes.Bytes(r); point != "" {
		return point, unitBytes
	}
	low, _ := unit(s[unitBytes:])
	point, is := runes.Pair(r, low)
	if !is {
		return "", 0
	}
	return runes.Bytes(point), 2 * unitBytes
}

func unit(s string) (rune, bool) {
	digits, is := strings.CutPrefix(s, `\u`)
	if !is {
		return 0, false
	}
	return runes.Hex(digits)
}

// span is the number of bytes ahead of the first code point that is not such a one.
func span(s string, is func(rune) bool) int {
	for i, r := range s {
		if !is(r) {
			return i
		}
	}
	return len(s)
}

func isNumber(s string) bool {
	s = strings.TrimPrefix(s, "-")
	whole := span(s, isDigit)
	if whole == 0 || whole > 1 && s[0] == '0' {
		return false
	}
	s = s[whole:]
	if fraction, is := strings.CutPrefix(s, "."); is {
		n := span(fraction, isDigit)
		if n == 0 {
			return false
		}
		s = fraction[n:]
	}
	return s == "" || isExponent(s)
}

func isExponent(s string) bool {
	if s[0] != 'e' && s[0] != 'E' {
		return false
	}
	s = s[1:]
	if s != "" && (s[0] == '+' || s[0] == '-') {
		s = s[1:]
	}
	return s != "" && span(s, isDigit) == len(s)
}

func isWhite(r rune) bool {
	return r == ' ' || r == '\t' || r == '\n' || r == '\r'
}

func isDigit(r rune) bool {
	return r >= '0' && r <= '9'
}

func isOfNumber(r rune) bool {
	return isDigit(r) || r == '+' || r == '-' || r == '.' || r == 'e' || r == 'E'
}

func isLetter(r rune) bool {
	return r >= 'a' && r <= 'z'
}

// isPlain: it stands for itself in a quoted string.
func isPlain(r rune) bool {
	return r >= ' ' && r != '"' && r != '\\'
}
