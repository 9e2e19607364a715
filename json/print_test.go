package json_test

import (
	library "encoding/json"
	"fmt"
	"math/rand/v2"
	"slices"
	"strings"
	"testing"

	"codicil/api"
	"codicil/json"
)

// checkPrint: May and Print of a value, which neither of them changes; a text is not empty beside OK.
func checkPrint(t *testing.T, v api.Value, want string, e api.Errno) {
	t.Helper()
	before := json.Copy(v)
	if got := json.May(v); got != e {
		t.Errorf("May (%s) = %v, want %v", short(want), got, e)
	}
	if s, got := json.Print(v); s != want || got != e {
		t.Errorf("Print = %s, %v, want %s, %v", short(s), got, short(want), e)
	}
	if !same(v, before) {
		t.Errorf("Print changed its argument (%s)", short(want))
	}
}

func checkWrong(t *testing.T, v api.Value, e api.Errno) {
	t.Helper()
	checkPrint(t, v, "", e)
}

// checkInside: an error is told wherever in a value it occurs.
func checkInside(t *testing.T, v api.Value, e api.Errno) {
	t.Helper()
	checkWrong(t, v, e)
	checkWrong(t, arr(v), e)
	checkWrong(t, arr(null, v, null), e)
	checkWrong(t, obj("a,b,c", null, str("x"), v), e)
	checkWrong(t, obj("a", arr(arr(), obj("b", v), arr(num("1")))), e)
}

// escaped is what a code point is in a quoted string, by the chapter's words.
func escaped(r rune) string {
	switch r {
	case '"':
		return `\"`
	case '\\':
		return `\\`
	case 8:
		return `\b`
	case 9:
		return `\t`
	case 10:
		return `\n`
	case 12:
		return `\f`
	case 13:
		return `\r`
	}
	if r < 32 {
		return fmt.Sprintf(`\u%04x`, r)
	}
	return string(r)
}

// P2.2: texts written out by hand.
func TestP2_2Texts(t *testing.T) {
	empty := api.Value{Kind: api.JObject}
	for want, v := range map[string]api.Value{
		"null": null, "false": no, "true": yes, "[]": arr(), "{}": empty, `""`: str(""), "[null]": arr(null), "[[]]": arr(arr()), "[{}]": arr(empty),
		"0": num("0"), "-0": num("-0"), "1.50": num("1.50"), "-0.5e3": num("-0.5e3"), "1E+05": num("1E+05"), "12345678901234567890": num("12345678901234567890"),
		"[1,2,3]":                          arr(num("1"), num("2"), num("3")),
		"[null,[false,[true]],[]]":         arr(null, arr(no, arr(yes)), arr()),
		`{"a":1}`:                          obj("a", num("1")),
		`{"b":1,"a":{"b":[]},"":""}`:       obj("b,a,", num("1"), obj("b", arr()), str("")),
		`{"a":{"a":{"a":null}}}`:           obj("a", obj("a", obj("a", null))),
		"{\"\\n\":\"\\\"\",\"\u00e9\":0}":  obj("\n,\u00e9", str("\""), num("0")),
		`"null"`:                           str("null"),
		`" a  b "`:                         str(" a  b "),
		`"/<>&'"`:                          str("/<>&'"),
		`"\"\\\b\f\n\r\t"`:                 str("\"\\\b\f\n\r\t"),
		`"\u0000\u0001\u000b\u000e\u001f"`: str("\x00\x01\x0b\x0e\x1f"),
		"\"\x7f\u0080\u00e9\u20ac\u2028\u2029\ufeff\ufffd\U0001f600\"": str("\x7f\u0080\u00e9\u20ac\u2028\u2029\ufeff\ufffd\U0001f600"),
		`"\\u0041"`: str(`\u0041`),
	} {
		checkPrint(t, v, want, api.OK)
		checkPrint(t, arr(v, v), "["+want+","+want+"]", api.OK)
		checkPrint(t, obj("k,l", v, v), `{"k":`+want+`,"l":`+want+"}", api.OK)
	}
	for want, v := range map[string]api.Value{
		"null": {Kind: api.JNull, Keys: []string{}, List: []api.Value{}}, "1": {Kind: api.JNumber, Text: "1", Keys: []string{}, List: []api.Value{}}, `"a"`: {Kind: api.JString, Text: "a", Keys: []string{}, List: []api.Value{}},
		"[]": {Kind: api.JArray, Keys: []string{}, List: []api.Value{}}, "{}": {Kind: api.JObject, Keys: []string{}, List: []api.Value{}}, "[true]": {Kind: api.JArray, Keys: []string{}, List: []api.Value{yes}},
	} {
		checkPrint(t, v, want, api.OK)
	}
}

// P2.2: Quote, and Print of strings and keys, for all code points.
func TestP2_2Quote(t *testing.T) {
	var b strings.Builder
	all := `"`
	for r := rune(0); r <= 0x10ffff; r++ {
		if r >= 0xd800 && r <= 0xdfff {
			continue
		}
		want := `"` + escaped(r) + `"`
		if s, e := json.Quote(string(r)); s != want || e != api.OK {
			t.Fatalf("Quote(%x) = %s, %v", r, s, e)
		}
		if r < 0x300 {
			checkPrint(t, str("a"+string(r)+"z"), `"a`+escaped(r)+`z"`, api.OK)
			checkPrint(t, api.Value{Kind: api.JObject, Keys: []string{string(r)}, List: []api.Value{null}}, "{"+want+":null}", api.OK)
			b.WriteRune(r)
			all += escaped(r)
		}
	}
	if s, e := json.Quote(b.String()); s != all+`"` || e != api.OK {
		t.Errorf("Quote of many = %s, %v", s, e)
	}
	if s, e := json.Quote(""); s != `""` || e != api.OK {
		t.Errorf("Quote of none = %s, %v", s, e)
	}
	for _, s := range []string{"\xff", "a\xc0\x80", "\xed\xa0\x80", "\xe2\x82", "\x80", "\xf4\x90\x80\x80", "\ufffd\xff", "\"\\\n\xfe", strings.Repeat("a", api.MaxJSON) + "\xff", "\xff" + strings.Repeat("a", 3*api.MaxJSON)} {
		if got, e := json.Quote(s); got != "" || e != api.ErrUtf {
			t.Errorf("Quote(%s) = %s, %v", short(s), short(got), e)
		}
	}
}

// P2.2: how long a quoted text may be, whatever it consists of.
func TestP2_2QuoteLong(t *testing.T) {
	for piece, each := range map[string]int{"a": 1, "\u00e9": 2, "\u20ac": 3, "\U0001f600": 4, "\n": 2, "\"": 2, "\\": 2, "\x00": 6, "\x1f": 6, "/": 1, "\x7f": 1} {
		n := (api.MaxJSON - 2) / each
		fill := strings.Repeat("b", api.MaxJSON-2-n*each)
		if s, e := json.Quote(strings.Repeat(piece, n) + fill); len(s) != api.MaxJSON || e != api.OK {
			t.Errorf("%d times %q: %d bytes, %v", n, piece, len(s), e)
		}
		checkPrint(t, str(strings.Repeat(piece, n)+fill), `"`+strings.Repeat(escaped([]rune(piece)[0]), n)+fill+`"`, api.OK)
		for _, more := range []string{"b", "\x00", strings.Repeat(piece, n), strings.Repeat(piece, 100*n)} {
			if s, e := json.Quote(strings.Repeat(piece, n) + fill + more); s != "" || e != api.ErrLong {
				t.Errorf("more than %d times %q: %d bytes, %v", n, piece, len(s), e)
			}
			checkWrong(t, str(more+strings.Repeat(piece, n)+fill), api.ErrLong)
		}
	}
}

// P2.2: what no kind has, or not this one.
func TestP2_2Form(t *testing.T) {
	for kind := range 256 {
		if kind < int(api.JNull) || kind > int(api.JObject) {
			checkInside(t, api.Value{Kind: uint8(kind)}, api.ErrForm)
			checkWrong(t, api.Value{Kind: uint8(kind), Text: "1", Keys: []string{"a"}, List: []api.Value{null}}, api.ErrForm)
		}
	}
	for kind, text := range map[uint8]string{api.JNull: "", api.JFalse: "", api.JTrue: "", api.JNumber: "1", api.JString: "a", api.JArray: ""} {
		checkPrint(t, arr(api.Value{Kind: kind, Text: text}), map[uint8]string{api.JNull: "[null]", api.JFalse: "[false]", api.JTrue: "[true]", api.JNumber: "[1]", api.JString: `["a"]`, api.JArray: "[[]]"}[kind], api.OK)
		checkInside(t, api.Value{Kind: kind, Text: text, Keys: []string{"a"}}, api.ErrForm)
		checkInside(t, api.Value{Kind: kind, Text: text, Keys: []string{""}}, api.ErrForm)
		checkInside(t, api.Value{Kind: kind, Text: text, Keys: []string{"a"}, List: []api.Value{null}}, api.ErrForm)
		if kind != api.JArray {
			checkInside(t, api.Value{Kind: kind, Text: text, List: []api.Value{null}}, api.ErrForm)
		}
	}
	for kind, text := range map[uint8]string{api.JNull: "null", api.JFalse: "false", api.JTrue: "true", api.JArray: "[]", api.JObject: "{}"} {
		checkInside(t, api.Value{Kind: kind, Text: text}, api.ErrForm)
		checkInside(t, api.Value{Kind: kind, Text: " "}, api.ErrForm)
		checkInside(t, api.Value{Kind: kind, Text: "\xff"}, api.ErrForm)
	}
	for keys, values := range map[string]int{"a": 0, "a,b": 1, "a,b,c": 2, "": 0} {
		checkInside(t, obj(keys, slices.Repeat([]api.Value{null}, values)...), api.ErrForm)
		checkInside(t, obj(keys, slices.Repeat([]api.Value{null}, values+2)...), api.ErrForm)
	}
	checkInside(t, api.Value{Kind: api.JObject, List: []api.Value{null}}, api.ErrForm)
}

// P2.2: numbers that are none.
func TestP2_2Numbers(t *testing.T) {
	for _, s := range []string{"0", "-0", "7", "10", "-10", "0.0", "-0.010", "1e5", "1E5", "1e+5", "1e-5", "0e0", "1.5E-007", strings.Repeat("9", 1000), "0." + strings.Repeat("0", 1000)} {
		checkPrint(t, num(s), s, api.OK)
	}
	for _, s := range []string{
		"", "-", "+", "+1", "--1", "-+1", "00", "01", "-01", "-00", "00.5", ".", ".5", "-.5", "1.", "-1.", "1..5", "1.5.5", "1.e5", ".e5", "e", "e5", "E5", "1e", "1E", "1e+", "1e-", "1e+-5", "1e5.5", "1e5e5", "1ee5", "1-", "1-2", "1+2",
		" 1", "1 ", "1\n", "1 2", "1,", "1a", "a1", "0x1", "1_0", "1\x00", "\x00", "NaN", "Infinity", "-Infinity", "null", "\u0661", "\uff11", "1\u0661", "\xff", "1\xff", "1.\xff", "1e\xff", "\"1\"", "[1]",
	} {
		checkInside(t, num(s), api.ErrForm)
	}
}

// P2.2
func TestP2_2Utf(t *testing.T) {
	for _, s := range []string{"\xff", "a\xff", "\xc3", "\xc0\x80", "\xed\xa0\x80", "\xe2\x82", "a\x80b", "\xf4\x90\x80\x80", "\ufffd\xff"} {
		checkInside(t, str(s), api.ErrUtf)
		checkInside(t, obj(s, null), api.ErrUtf)
		checkInside(t, obj("a,"+s, null, null), api.ErrUtf)
		checkInside(t, obj(s+",a,b", null, null, null), api.ErrUtf)
		checkInside(t, obj(s+","+s, null, null), api.ErrUtf)
	}
}

// P2.2
func TestP2_2Twice(t *testing.T) {
	for _, keys := range []string{"a,a", "a,a,b", "a,b,a", "b,a,a", ",", "\n,\n", "\u00e9,b,\u00e9", "a,b,c,d,e,a"} {
		checkInside(t, obj(keys, slices.Repeat([]api.Value{null}, strings.Count(keys, ",")+1)...), api.ErrTwice)
	}
	checkPrint(t, obj("a,A,a ,, ,b", null, null, null, null, null, null), `{"a":null,"A":null,"a ":null,"":null," ":null,"b":null}`, api.OK)
	checkPrint(t, obj("\u00e9,e\u0301", null, null), "{\"\u00e9\":null,\"e\u0301\":null}", api.OK)
	checkPrint(t, obj("a,b", obj("a,b", null, null), arr(obj("a", null), obj("a", null))), `{"a":{"a":null,"b":null},"b":[{"a":null},{"a":null}]}`, api.OK)
	var keys []string
	for i := range 4000 {
		keys = append(keys, fmt.Sprint("k", i))
	}
	v := api.Value{Kind: api.JObject, Keys: keys, List: slices.Repeat([]api.Value{null}, 4000)}
	if e := json.May(v); e != api.OK {
		t.Errorf("4000 keys: %v", e)
	}
	for _, pair := range [][2]int{{0, 1}, {0, 3999}, {1999, 2000}, {3998, 3999}} {
		kept := keys[pair[1]]
		keys[pair[1]] = keys[pair[0]]
		checkWrong(t, v, api.ErrTwice)
		keys[pair[1]] = kept
	}
}

// P2.2: what Parse takes is what May takes.
func TestP2_2Nest(t *testing.T) {
	const top = api.MaxNest
	objects := func(n int, inner api.Value) api.Value {
		for range n {
			inner = obj("a", inner)
		}
		return inner
	}
	for _, n := range []int{1, top - 1, top} {
		checkPrint(t, nest(n), strings.Repeat("[", n)+strings.Repeat("]", n), api.OK)
		checkPrint(t, nest(n, null, str("a")), strings.Repeat("[", n)+`null,"a"`+strings.Repeat("]", n), api.OK)
		checkPrint(t, objects(n, yes), strings.Repeat(`{"a":`, n)+"true"+strings.Repeat("}", n), api.OK)
		checkPrint(t, objects(n-1, api.Value{Kind: api.JObject}), strings.Repeat(`{"a":`, n-1)+"{}"+strings.Repeat("}", n-1), api.OK)
	}
	for _, n := range []int{top + 1, top + 2, 2 * top, 1000} {
		for _, v := range []api.Value{nest(n), nest(n, null), objects(n, null), objects(n-1, arr()), objects(n-1, api.Value{Kind: api.JObject}), nest(n-1, null, api.Value{Kind: api.JObject}, null), objects(n/2, nest(n-n/2))} {
			checkWrong(t, v, api.ErrNest)
			checkWrong(t, arr(null, v, null), api.ErrNest)
			checkWrong(t, obj("a,b", arr(), v), api.ErrNest)
		}
	}
	row := slices.Repeat([]api.Value{nest(top - 1)}, 50)
	if e := json.May(arr(row...)); e != api.OK {
		t.Errorf("what is open one after another: %v", e)
	}
}

// P2.2
func TestP2_2Many(t *testing.T) {
	const top = api.MaxValues
	for _, n := range []int{1, 2, top - 1, top} {
		checkPrint(t, many(n), "["+strings.TrimSuffix(strings.Repeat("null,", n-1), ",")+"]", api.OK)
	}
	row := func(n int, v api.Value) api.Value { return arr(slices.Repeat([]api.Value{v}, n)...) }
	var keys []string
	for i := range top {
		keys = append(keys, fmt.Sprint(i))
	}
	whole := api.Value{Kind: api.JObject, Keys: keys, List: slices.Repeat([]api.Value{null}, top)}
	for _, v := range []api.Value{many(top + 1), many(top + 2), many(10 * top), arr(many(top)), row(top/2, arr(null)), row(top, arr()), row(top, str("")), nest(api.MaxNest-1, many(top-api.MaxNest+2)), row(2, many(top/2)), whole, arr(many(top/2), many(top/2))} {
		checkWrong(t, v, api.ErrMany)
	}
	for _, v := range []api.Value{arr(many(top - 1)), nest(api.MaxNest-1, many(top-api.MaxNest+1)), arr(many(top/2-1), many(top/2)), {Kind: api.JObject, Keys: keys[1:], List: whole.List[1:]}} {
		if e := json.May(v); e != api.OK {
			t.Errorf("%d values: %v", top, e)
		}
	}
}

// P2.2: how long a text may be, whatever it consists of.
func TestP2_2Long(t *testing.T) {
	fill := func(n int) string { return strings.Repeat("a", n) }
	for _, c := range []struct {
		least string // the text, with no fill in it
		v     func(fill string) api.Value
	}{
		{`""`, func(s string) api.Value { return str(s) }},
		{"1", func(s string) api.Value { return num("1" + strings.Repeat("0", len(s))) }},
		{`[""]`, func(s string) api.Value { return arr(str(s)) }},
		{`{"":null}`, func(s string) api.Value { return obj(s, null) }},
		{`{"":false,"b":true}`, func(s string) api.Value { return obj(s+",b", no, yes) }},
		{`{"b":[],"":{}}`, func(s string) api.Value { return obj("b,"+s, arr(), api.Value{Kind: api.JObject}) }},
		{`["","b",0,null,false,true,[[]],{}]`, func(s string) api.Value {
			return arr(str(s), str("b"), num("0"), null, no, yes, arr(arr()), api.Value{Kind: api.JObject})
		}},
		{`{"a":{"":"\u0001\n\""}}`, func(s string) api.Value { return obj("a", obj(s, str("\x01\n\""))) }},
		{`["\u001f\\` + "\u20ac" + `"]`, func(s string) api.Value { return arr(str("\x1f\\" + s + "\u20ac")) }},
		{"[" + strings.Repeat(`"\u0000",`, 4000) + `""]`, func(s string) api.Value {
			return arr(append(slices.Repeat([]api.Value{str("\x00")}, 4000), str(s))...)
		}},
	} {
		free := api.MaxJSON - len(c.least)
		for _, n := range []int{0, free - 1, free} {
			v := c.v(fill(n))
			if s, e := json.Print(v); len(s) != len(c.least)+n || e != api.OK || json.May(v) != api.OK {
				t.Errorf("%s and %d bytes: %d bytes, %v", short(c.least), n, len(s), e)
			}
		}
		for _, n := range []int{free + 1, free + 2, free + 1000, 10 * free} {
			checkWrong(t, c.v(fill(n)), api.ErrLong)
		}
	}
	half := str(fill(api.MaxJSON / 2))
	checkWrong(t, arr(half, half), api.ErrLong)
	checkWrong(t, obj("a,b", half, arr(half)), api.ErrLong)
	checkWrong(t, arr(slices.Repeat([]api.Value{str(strings.Repeat("\x00", 3))}, 4000)...), api.ErrLong)
}

// P2.2: of several errors the first one of the list is told, wherever each stands.
func TestP2_2Order(t *testing.T) {
	wrong := []struct {
		e api.Errno
		v api.Value
	}{
		{api.ErrForm, num("01")},
		{api.ErrUtf, str("\xff")},
		{api.ErrTwice, obj("a,a", null, null)},
		{api.ErrNest, nest(api.MaxNest)},
		{api.ErrMany, many(api.MaxValues)},
		{api.ErrLong, str(strings.Repeat("a", api.MaxJSON))},
	}
	for set := 1; set < 1<<len(wrong); set++ {
		var list []api.Value
		want := api.OK
		for i := range wrong {
			if set>>i&1 == 1 {
				list = append(list, wrong[i].v)
				if want == api.OK {
					want = wrong[i].e
				}
			}
		}
		for range list {
			list = append(list[1:], list[0])
			checkWrong(t, arr(list...), want)
			back := slices.Clone(list)
			slices.Reverse(back)
			checkWrong(t, arr(back...), want)
		}
	}
	// One value may have several errors, and one may stand in what is too much.
	key := strings.Repeat("k", api.MaxJSON)
	checkWrong(t, api.Value{Kind: api.JObject, Text: "x", Keys: []string{"\xff", "\xff"}, List: []api.Value{null, null}}, api.ErrForm)
	checkWrong(t, obj("\xff,\xff", nest(api.MaxNest), null), api.ErrUtf)
	checkWrong(t, obj(key+","+key, nest(api.MaxNest), many(api.MaxValues)), api.ErrTwice)
	checkWrong(t, obj(key, nest(api.MaxNest)), api.ErrNest)
	checkWrong(t, obj(key, many(api.MaxValues)), api.ErrMany)
	for _, x := range wrong[:3] {
		checkWrong(t, nest(api.MaxNest+10, x.v), x.e)
		checkWrong(t, nest(api.MaxNest, arr(), x.v), x.e)
		checkWrong(t, arr(append(many(2*api.MaxValues).List, x.v)...), x.e)
		checkWrong(t, arr(str(key), x.v), x.e)
	}
	checkWrong(t, arr(append(many(2*api.MaxValues).List, nest(api.MaxNest))...), api.ErrNest)
	checkWrong(t, arr(str(key+key), many(api.MaxValues)), api.ErrMany)
}

// maker makes values that are valid.
type maker struct {
	*rand.Rand
	left int
}

func (m *maker) text() string {
	points := []rune{0, 1, 8, 9, 10, 11, 12, 13, 31, 32, '"', '\\', '/', 'a', 'b', 'u', '0', ',', '[', 0x7f, 0x80, 0xe9, 0x20ac, 0x2028, 0xd7ff, 0xe000, 0xfffd, 0xffff, 0x10000, 0x1f600, 0x10ffff}
	var b strings.Builder
	for range m.IntN(6) {
		b.WriteRune(points[m.IntN(len(points))])
	}
	return b.String()
}

func (m *maker) value(deep int) api.Value {
	m.left--
	numbers := []string{"0", "-0", "1", "-12", "0.5", "1e9", "-1.25E-3", "100", "9223372036854775807", "1.0e+00"}
	switch kind := uint8(1 + m.IntN(7)); kind {
	case api.JNumber:
		return num(numbers[m.IntN(len(numbers))])
	case api.JString:
		return str(m.text())
	case api.JArray, api.JObject:
		v := api.Value{Kind: kind}
		for range m.IntN(5) {
			key := m.text()
			if deep >= api.MaxNest || m.left <= 0 || slices.Contains(v.Keys, key) {
				continue
			}
			if kind == api.JObject {
				v.Keys = append(v.Keys, key)
			}
			v.List = append(v.List, m.value(deep+1))
		}
		return v
	default:
		return api.Value{Kind: kind}
	}
}

// spaced is a text of v with white space between tokens, and other escape sequences.
func (m *maker) spaced(v api.Value) string {
	white := func() string { return strings.Repeat([]string{" ", "\t", "\n", "\r"}[m.IntN(4)], m.IntN(3)) }
	quoted := func(s string) string {
		q := `"`
		for _, r := range s {
			switch {
			case m.IntN(3) > 0:
				q += escaped(r)
			case r < 0x10000:
				q += fmt.Sprintf([]string{`\u%04x`, `\u%04X`}[m.IntN(2)], r)
			default:
				q += fmt.Sprintf(`\u%04X\u%04x`, 0xd800+(r-0x10000)>>10, 0xdc00+(r-0x10000)&0x3ff)
			}
		}
		return q + `"`
	}
	s := white()
	switch v.Kind {
	case api.JString:
		s += quoted(v.Text)
	case api.JArray, api.JObject:
		s += map[uint8]string{api.JArray: "[", api.JObject: "{"}[v.Kind] + white()
		for i, inner := range v.List {
			if i > 0 {
				s += "," + white()
			}
			if v.Kind == api.JObject {
				s += quoted(v.Keys[i]) + white() + ":"
			}
			s += m.spaced(inner)
		}
		s += map[uint8]string{api.JArray: "]", api.JObject: "}"}[v.Kind]
	default:
		printed, _ := json.Print(v)
		s += printed
	}
	return s + white()
}

// P2.4: parsing what was printed, and printing what was parsed.
func TestP2_4Inverse(t *testing.T) {
	m := &maker{Rand: rand.New(rand.NewPCG(3, 4))}
	for range 20000 {
		m.left = 60
		v := arr(m.value(1), m.value(1), m.value(1))
		s, e := json.Print(v)
		if e != api.OK || !library.Valid([]byte(s)) {
			t.Fatalf("Print(%v) = %s, %v", v, short(s), e)
		}
		checkValue(t, s, v)
		if !same(told(t, s), v) {
			t.Errorf("the library reads %s as another value", short(s))
		}
		spaced := m.spaced(v)
		checkValue(t, spaced, v)
		parsed, _ := json.Parse(spaced)
		if again, e := json.Print(parsed); again != s || e != api.OK {
			t.Errorf("%s, printed: %s, %v", short(spaced), short(again), e)
		}
		if !json.Same(parsed, v) || !json.Same(json.Copy(parsed), v) {
			t.Errorf("%s: another value", short(s))
		}
		quit(t)
	}
}

// P2.4: whatever is parsed can be printed, and is the same when it is parsed again.
func TestP2_4Again(t *testing.T) {
	const top = api.MaxJSON
	for _, s := range []string{
		"null", " [ ] ", "{ }", `"\/\u002f/"`, `"\u000a\n"`, `"\u0008\u0009\u000b\u000c\u000d\u0022\u005c\u007f\u0080"`, `"\uD83D\uDE00"`, "1.50E+07", "[1 ,\t2 ,\n3]", `{ "a" : { "b" : [ ] } , "" : "" }`, `{"\u0061":1,"\n":2}`,
		`"` + strings.Repeat("a", top-2) + `"`, `"` + strings.Repeat(`\n`, top/2-1) + `"`, `"` + strings.Repeat(`\u0000`, 10922) + `aa"`, `"` + strings.Repeat(`\u000A`, 10922) + `aa"`, `"` + strings.Repeat("\U0001f600", top/4-1) + `ab"`,
		strings.Repeat("[", api.MaxNest) + strings.Repeat("]", api.MaxNest), "[" + strings.Repeat("[],", api.MaxValues-2) + "[]]", strings.Repeat(" ", top-1) + "0", strings.Repeat("7", top), "0." + strings.Repeat("0", top-2),
	} {
		v, f := json.Parse(s)
		if f != (api.Fault{}) {
			t.Errorf("Parse(%s): %v", short(s), f)
		}
		printed, e := json.Print(v)
		if e != api.OK || len(printed) > len(s) {
			t.Errorf("Print of %s: %s, %v", short(s), short(printed), e)
		}
		checkValue(t, printed, v)
		if again, _ := json.Print(v); again != printed {
			t.Errorf("%s: printed anew it is another", short(s))
		}
	}
}
