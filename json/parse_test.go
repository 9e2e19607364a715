package json_test

import (
	library "encoding/json"
	"fmt"
	"io"
	"math/rand/v2"
	"regexp"
	"slices"
	"strings"
	"testing"
	"unicode/utf8"

	"codicil/api"
	"codicil/json"
)

// checkParse: a text's value, or its fault.
func checkParse(t *testing.T, s string, want api.Value, fault api.Fault) {
	t.Helper()
	v, f := json.Parse(s)
	if f != fault {
		t.Errorf("Parse(%s): fault %v, want %v", short(s), f, fault)
	} else if !same(v, want) {
		t.Errorf("Parse(%s) = %v, want %v", short(s), v, want)
	}
}

func checkValue(t *testing.T, s string, want api.Value) {
	t.Helper()
	checkParse(t, s, want, api.Fault{})
}

func checkFault(t *testing.T, s string, at int, e api.Errno) {
	t.Helper()
	checkParse(t, s, api.Value{}, api.Fault{At: at, Err: e})
}

// quit ends a test that has failed, so that loops over everything do not tell each of their faults.
func quit(t *testing.T) {
	t.Helper()
	if t.Failed() {
		t.FailNow()
	}
}

// P2.1: what stands in the chapter, and values written out by hand.
func TestP2_1Values(t *testing.T) {
	for s, want := range map[string]api.Value{
		"null": null, "false": no, "true": yes, "0": num("0"), "-0.5e3": num("-0.5e3"), `""`: str(""), `"a"`: str("a"), "[]": arr(), "{}": {Kind: api.JObject},
		`{"a":[1,-0.5e3,"\u00e9"]}`:          obj("a", arr(num("1"), num("-0.5e3"), str("\u00e9"))),
		"[null,false,true]":                  arr(null, no, yes),
		"[[]]":                               arr(arr()),
		"[[],[]]":                            arr(arr(), arr()),
		"[[1],[2,3],[[4]]]":                  arr(arr(num("1")), arr(num("2"), num("3")), arr(arr(num("4")))),
		"[{}]":                               arr(api.Value{Kind: api.JObject}),
		"[1,1.0,1.00,1e0,1E0,1e+0]":          arr(num("1"), num("1.0"), num("1.00"), num("1e0"), num("1E0"), num("1e+0")),
		`{"":""}`:                            obj("", str("")),
		`{"a":null}`:                         obj("a", null),
		`{"b":1,"a":2}`:                      obj("b,a", num("1"), num("2")),
		`{"a":{"a":{"a":1}}}`:                obj("a", obj("a", obj("a", num("1")))),
		`{"a":[{"b":[]},{"b":{}}],"c":true}`: obj("a,c", arr(obj("b", arr()), obj("b", api.Value{Kind: api.JObject})), yes),
		`"null"`:                             str("null"),
		`"a b"`:                              str("a b"),
		`"[1,{}]"`:                           str("[1,{}]"),
		`"\"\\\/\b\f\n\r\t"`:                 str("\"\\/\b\f\n\r\t"),
		`"/"`:                                str("/"),
		"\"\x7f\"":                           str("\x7f"),
		"\"\u00e9\u20ac\U0001f600\"":         str("\u00e9\u20ac\U0001f600"),
		"\"\ufffd\ufeff\u2028\"":             str("\ufffd\ufeff\u2028"),
		`"\ud83d\ude00"`:                     str("\U0001f600"),
		`"\u0000"`:                           str("\x00"),
		`"\u0022\u005c\u002f"`:               str("\"\\/"),
		`"\u00e90"`:                          str("\u00e90"),
		`"\\u0041"`:                          str(`\u0041`),
		`"a\nb\nc"`:                          str("a\nb\nc"),
		`{"\u0061":1,"\n":2}`:                obj("a,\n", num("1"), num("2")),
	} {
		checkValue(t, s, want)
		checkValue(t, " \t\n\r"+s+"\r\n\t ", want)
		v, _ := json.Parse("[" + s + "," + s + "]")
		checkOwn(t, s, v)
	}
}

// P2.1: where a value is required.
func TestP2_1FaultsOfValues(t *testing.T) {
	for _, s := range []string{"", " ", "\n", " \t\r\n ", "[", "[ ", "[1,", "[1, ", "[[],", "[[", `{"a":`, `{"a": `, `[{"a":1,"b":`} {
		checkFault(t, s, len(s), api.ErrEnd)
	}
	for _, s := range []string{
		"n", "nul", "nulll", "nullnull", "t", "tru", "truee", "f", "fals", "falsee", "a", "z", "e", "e1", "nan", "inf", "undefined", "truefalse", "nil", "x",
		"N", "Null", "NULL", "True", "TRUE", "FALSE", "NaN", "Infinity", "E1", "Z",
		"]", "}", ",", ":", "+", "+1", ".", ".5", "'", "'a'", "`", "/", "//", "/**/1", "\\", `\"a"`, "!", "#", "$", "%", "&", "(", ")", "*", ";", "<", "=", ">", "?", "@", "^", "_", "|", "~",
		"\x00", "\x01", "\x08", "\x0b", "\x0c", "\x0e", "\x1f", "\x7f", "\u00a0", "\u0085", "\u00e9", "\u0661", "\u2028", "\u3000", "\ufeff", "\ufeff1", "\ufffd", "\U0001f600",
	} {
		checkFault(t, s, 0, api.ErrByte)
		checkFault(t, " \n"+s, 2, api.ErrByte)
		checkFault(t, `{"a":`+s, 5, api.ErrByte)
		checkFault(t, "[1, "+s+"]", 4, api.ErrByte)
		if s != "]" {
			checkFault(t, "["+s, 1, api.ErrByte)
		}
	}
	for s, at := range map[string]int{"[1,]": 3, "[,1]": 1, "[1,,2]": 3, "[,]": 1, "[}": 1, "[1,}": 3, `{"a":}`: 5, `{"a":,`: 5, `{"a":]`: 5, `{"a"::1}`: 5, "[[],]": 4, `{"a":nul}`: 5, "[true,fals]": 6, "[\ttru\t]": 2} {
		checkFault(t, s, at, api.ErrByte)
	}
}

// P2.1: each letter ahead of a word, behind it and behind a number.
func TestP2_1Words(t *testing.T) {
	for word, v := range map[string]api.Value{"null": null, "false": no, "true": yes} {
		for c := 'a'; c <= 'z'; c++ {
			small, great := string(c), strings.ToUpper(string(c))
			checkFault(t, word+small, 0, api.ErrByte)
			checkFault(t, "["+small+word+"]", 1, api.ErrByte)
			checkFault(t, `{"a":`+word+small+"}", 5, api.ErrByte)
			checkFault(t, word+great, len(word), api.ErrMore)
			checkFault(t, "["+word+great+"]", 1+len(word), api.ErrByte)
			checkFault(t, great+word, 0, api.ErrByte)
			if c != 'e' {
				checkFault(t, "[1"+small, 2, api.ErrByte)
				checkFault(t, "1"+great, 1, api.ErrMore)
			}
		}
		for n := range len(word) {
			checkFault(t, word[:n]+"]", 0, api.ErrByte)
			checkFault(t, "["+word[:n]+strings.ToUpper(word[n:]), 1, api.ErrByte)
		}
		checkValue(t, "["+word+"]", arr(v))
	}
}

// P2.1: in strings, which are values and keys.
func TestP2_1FaultsOfStrings(t *testing.T) {
	for _, c := range []struct {
		s  string // what stands behind the opening quote
		at int
		e  api.Errno
	}{
		{"", 0, api.ErrEnd}, {"a", 1, api.ErrEnd}, {"a b ", 4, api.ErrEnd}, {"\u20ac", 3, api.ErrEnd}, {`\"`, 2, api.ErrEnd}, {`\\`, 2, api.ErrEnd}, {`\\\"`, 4, api.ErrEnd}, {`\u0041`, 6, api.ErrEnd}, {`\ud83d\ude00`, 12, api.ErrEnd}, {`\n`, 2, api.ErrEnd}, {"a'", 2, api.ErrEnd}, {"a]}", 3, api.ErrEnd},
		{"\x00", 0, api.ErrByte}, {"\n\"", 0, api.ErrByte}, {"a\tb\"", 1, api.ErrByte}, {"a\x1f", 1, api.ErrByte}, {"\u20ac\r\"", 3, api.ErrByte}, {`\n` + "\n\"", 2, api.ErrByte},
		{`\`, 0, api.ErrEscape}, {`\a"`, 0, api.ErrEscape}, {`\x41"`, 0, api.ErrEscape}, {`\U0041"`, 0, api.ErrEscape}, {`\N"`, 0, api.ErrEscape}, {`\0"`, 0, api.ErrEscape}, {`\'"`, 0, api.ErrEscape}, {`\ "`, 0, api.ErrEscape}, {"\\\n\"", 0, api.ErrEscape}, {"\\\u00e9\"", 0, api.ErrEscape}, {`a\\\q"`, 3, api.ErrEscape},
		{`\u`, 0, api.ErrEscape}, {`\u"`, 0, api.ErrEscape}, {`\u004"`, 0, api.ErrEscape}, {`\u004g"`, 0, api.ErrEscape}, {`\ug041"`, 0, api.ErrEscape}, {`\u 041"`, 0, api.ErrEscape}, {`\u+041"`, 0, api.ErrEscape}, {`\u-041"`, 0, api.ErrEscape}, {`\u0x41"`, 0, api.ErrEscape}, {`\u00`, 0, api.ErrEscape}, {`ab\u00"`, 2, api.ErrEscape}, {`\u{41}"`, 0, api.ErrEscape}, {`\u00\u0041"`, 0, api.ErrEscape},
		{`\q` + "\n", 0, api.ErrEscape}, {"\n" + `\q`, 0, api.ErrByte}, {`a\q`, 1, api.ErrEscape}, {"a\x01", 1, api.ErrByte},
	} {
		checkFault(t, `"`+c.s, 1+c.at, c.e)
		checkFault(t, `  "`+c.s, 3+c.at, c.e)
		checkFault(t, `["b","`+c.s, 6+c.at, c.e)
		checkFault(t, `{"`+c.s, 2+c.at, c.e)
		checkFault(t, `{"b":1,"`+c.s, 8+c.at, c.e)
		checkFault(t, `{"b":"`+c.s, 6+c.at, c.e)
	}
}

// P2.1: where a key, a colon, a comma or an end is required, and behind the value.
func TestP2_1FaultsOfMarks(t *testing.T) {
	for _, s := range []string{"{", "{ ", `{"a":1,`, `{"a":1, `, `{"a"`, `{"a" `, `{"a":1`, `{"a":1 `, `{"a":"b"`, "[1", "[1 ", "[null", `["a"`, "[[]", "[{}", `{"a":[]`, `[{"a":1}`, `{"a":{}`} {
		checkFault(t, s, len(s), api.ErrEnd)
	}
	for _, bad := range []string{"'", "1", "a", "null", "[", "{", ",", ":", "]", ";", "\\", "\x00", "\x0b", "\x0c", "\u00a0", "\ufeff", "\u20ac"} {
		checkFault(t, "{"+bad, 1, api.ErrByte)
		checkFault(t, "{ \n"+bad+"}", 3, api.ErrByte)
		checkFault(t, `{"a":1,`+bad, 7, api.ErrByte)
		if bad != ":" {
			checkFault(t, `{"a"`+bad, 4, api.ErrByte)
			checkFault(t, `{"a" `+bad+":1}", 5, api.ErrByte)
		}
		if bad != "," {
			checkFault(t, `{"a":[]`+bad, 7, api.ErrByte)
			checkFault(t, `{"a":"b" `+bad+"}", 9, api.ErrByte)
		}
		if bad != "," && bad != "]" {
			checkFault(t, `["a" `+bad, 5, api.ErrByte)
			checkFault(t, `[""`+bad+"]", 3, api.ErrByte)
			checkFault(t, "[{}\t"+bad, 4, api.ErrByte)
		}
	}
	for s, at := range map[string]int{"{,}": 1, `{"a":1,}`: 7, `{"a":1,,`: 7, `{"a"}`: 4, `{"a",1}`: 4, `{"a":1]`: 6, `{"a":1:2}`: 6, `{"a" "b"}`: 5, "[1}": 2, "[1:2]": 2, "[1 2]": 3, "[1null]": 2, "[null1]": 5, `["a""b"]`: 4, "[[]1]": 3, "{1:2}": 1, "{null:1}": 1, "{]": 1, "[[1}]": 3, `{"a":[1}`: 7, `["a":1]`: 4, `{"a":1 "b":2}`: 7} {
		checkFault(t, s, at, api.ErrByte)
	}
	for s, at := range map[string]int{"1 2": 2, "1,": 1, "1]": 1, "1}": 1, "1:": 1, "[]]": 2, "{}}": 2, "[][]": 2, "[] []": 3, "{} {": 3, "null null": 5, "null,": 4, "null1": 4, "nullN": 4, "true\"": 4, "\"a\"\"": 3, `"a""b"`: 3, `"a"b`: 3, "1a": 1, "0x1": 1, "1_0": 1, "1 \x00": 2, "1\x0b": 1, "1\n\n\x0c": 3, "1\u00a0": 1, "1\ufeff": 1, "\n1\n/": 3, "[1] nul": 4, "{}\x7f": 2, "1'": 1, "1\"": 1, "1\\": 1} {
		checkFault(t, s, at, api.ErrMore)
	}
}

// P2.1: a key that is there already, as what it says and not as it is written.
func TestP2_1Twice(t *testing.T) {
	for s, at := range map[string]int{
		`{"a":1,"a":2}`: 7, `{"a":1,"\u0061":2}`: 7, `{"\u0061":1,"a":2}`: 12, `{"\/":1,"/":2}`: 8, `{"":1,"":2}`: 6, `{ "a" : 1 , "b" : 2 , "a" : 3 }`: 22,
		`{"a":1,"b":2,"b":3,"a":4}`: 13, `{"\ud83d\ude00":1,"` + "\U0001f600" + `":2}`: 18, `{"a":{"a":1},"a":2}`: 13, `{"a":{"b":1,"b":2},"a":3}`: 12, `[{"a":1},{"b":1,"b":2}]`: 16,
		`{"a":1,"a"`: 7, `{"a":1,"a"]`: 7, `{"a":1,"a",`: 7, `{"a":1,"a" x`: 7, `{"a":1,"a":x`: 7, `{"\u00E9":1,"\u00e9":2}`: 12, "{\"a\":1,\n\t\"a\":2}": 9,
	} {
		checkFault(t, s, at, api.ErrTwice)
	}
	checkFault(t, `{"a":1,"a`, 9, api.ErrEnd)
	checkFault(t, `{"a":1,"a\q"`, 9, api.ErrEscape)
	checkFault(t, `{"a":x,"a":1}`, 5, api.ErrByte)
	checkFault(t, `{"a":1 "a":1}`, 7, api.ErrByte)
	for s, want := range map[string]api.Value{
		`{"a":1,"A":2}`:                         obj("a,A", num("1"), num("2")),
		`{"a":1,"a ":2}`:                        obj("a,a ", num("1"), num("2")),
		`{"a":1,"ab":2,"":3}`:                   obj("a,ab,", num("1"), num("2"), num("3")),
		`{"a":1,"\\u0061":2}`:                   obj(`a,\u0061`, num("1"), num("2")),
		`[{"a":1},{"a":2}]`:                     arr(obj("a", num("1")), obj("a", num("2"))),
		`{"a":{"a":1,"b":{"a":2}},"b":{"a":3}}`: obj("a,b", obj("a,b", num("1"), obj("a", num("2"))), obj("a", num("3"))),
		"{\"\u00e9\":1,\"e\u0301\":2}":          obj("\u00e9,e\u0301", num("1"), num("2")),
		`{"a":["a","a"]}`:                       obj("a", arr(str("a"), str("a"))),
	} {
		checkValue(t, s, want)
	}
	var b strings.Builder
	for i := range 4000 {
		fmt.Fprintf(&b, `"k%d":%d,`, i, i)
	}
	for _, k := range []string{"k0", "k1", "k2000", "k3999"} {
		checkFault(t, "{"+b.String()+`"`+k+`":0}`, 1+b.Len(), api.ErrTwice)
	}
	if v, f := json.Parse("{" + b.String() + `"k4000":0}`); f.Err != api.OK || len(v.Keys) != 4001 || v.Keys[3999] != "k3999" || v.List[3999].Text != "3999" {
		t.Errorf("4001 keys: %v", f)
	}
}

// P2.1: MaxJSON and its neighbours; what is too long is told first.
func TestP2_1Long(t *testing.T) {
	fill := func(n int, s string) string { return strings.Repeat(s, n/len(s)+1)[:n] }
	for _, n := range []int{api.MaxJSON - 1, api.MaxJSON} {
		checkValue(t, `"`+fill(n-2, "a")+`"`, str(fill(n-2, "a")))
		checkValue(t, fill(n, "1"), num(fill(n, "1")))
		checkValue(t, fill(n-4, " ")+"null", null)
		checkValue(t, "null"+fill(n-4, "\n"), null)
		checkValue(t, `{"`+fill(n-6, "k")+`":1}`, obj(fill(n-6, "k"), num("1")))
		checkFault(t, fill(n, " "), n, api.ErrEnd)
		checkFault(t, `"`+fill(n-1, "a"), n, api.ErrEnd)
		checkFault(t, fill(n-1, "a")+"\xff", n-1, api.ErrUtf)
	}
	for _, n := range []int{api.MaxJSON + 1, api.MaxJSON + 2, 2 * api.MaxJSON, 10 * api.MaxJSON} {
		for _, s := range []string{`"` + fill(n-2, "a") + `"`, fill(n, "1"), "null" + fill(n-4, " "), fill(n, " "), fill(n, "\xff"), fill(n, "["), fill(n, "x"), "[" + fill(n-2, "1,") + "]", fill(n, "\u00e9")} {
			checkFault(t, s, 0, api.ErrLong)
		}
	}
}

// P2.1: what is not valid is told ahead of every other fault but the length.
func TestP2_1Utf(t *testing.T) {
	for s, at := range map[string]int{
		"\xff": 0, " \xff": 1, "\"\xff\"": 1, "\"a\xc0\x80\"": 2, "\"\xe2\x82\"": 1, "\"\xed\xa0\x80\"": 1, "\"\xed\xa0\xbd\xed\xb8\x80\"": 1, "\"\xf4\x90\x80\x80\"": 1, "\"\u20ac\xac\"": 4, "{\"\x80\":1}": 2, "1\xfe": 1,
		"x\xff": 1, "[1,]\xff": 4, "01 \xff": 3, "\"\x00\xff": 2, "\"\\q\xff\"": 3, "{\"a\":1,\"a\":2}\xc3": 13, "\"\ufffd\xff\"": 4,
	} {
		checkFault(t, s, at, api.ErrUtf)
	}
	checkFault(t, strings.Repeat("[", 60)+"\xff", 60, api.ErrUtf)
	checkFault(t, "["+strings.Repeat("1,", 5000)+"\xff", 10001, api.ErrUtf)
}

// P2.1: MaxNest and its neighbours.
func TestP2_1Nest(t *testing.T) {
	const top = api.MaxNest
	open := func(n int) string { return strings.Repeat("[", n) }
	end := func(n int) string { return strings.Repeat("]", n) }
	for _, n := range []int{1, 2, top - 1, top} {
		checkValue(t, open(n)+end(n), nest(n))
		checkValue(t, open(n)+"1"+end(n), nest(n, num("1")))
		checkFault(t, open(n)+end(n-1), 2*n-1, api.ErrEnd)
		checkFault(t, open(n)+end(n+1), 2*n, api.ErrMore)
		if v, f := json.Parse(strings.Repeat(`{"a":`, n) + "null" + strings.Repeat("}", n)); f.Err != api.OK || v.Kind != api.JObject {
			t.Errorf("%d objects: %v", n, f)
		}
	}
	for _, more := range []string{"[", "{", "[]", "{}", "[1]", "[" + end(60), "[x", "{x", "[\x01"} {
		checkFault(t, open(top)+more, top, api.ErrNest)
		checkFault(t, open(top)+" \n"+more, top+2, api.ErrNest)
		checkFault(t, open(top)+"1, "+more, top+3, api.ErrNest)
		checkFault(t, strings.Repeat(`{"a":`, top)+more, 5*top, api.ErrNest)
		checkFault(t, strings.Repeat(`{"a":[`, top/2)+more, 3*top, api.ErrNest)
		checkFault(t, open(top-1)+"[],{},"+open(1)+more, top+6, api.ErrNest)
	}
	checkFault(t, open(1000), top, api.ErrNest)
	checkFault(t, open(top)+"x", top, api.ErrByte)
	checkFault(t, open(top), top, api.ErrEnd)
	one := open(top-1) + end(top-1)
	checkValue(t, "["+strings.Repeat(one+",", 9)+one+"]", arr(slices.Repeat([]api.Value{nest(top - 1)}, 10)...))
	pair := open(top-2) + "{}" + end(top-2)
	if v, f := json.Parse(`{"a":` + pair + `,"b":` + pair + `,"c":[` + strings.Repeat("[],", 100) + "{}]}"); f.Err != api.OK || len(v.List) != 3 {
		t.Errorf("what is open no more: %v", f)
	}
}

// P2.1: MaxValues and its neighbours.
func TestP2_1Many(t *testing.T) {
	const top = api.MaxValues
	row := func(n int, s string) string { return strings.TrimSuffix(strings.Repeat(s+",", n), ",") }
	for _, n := range []int{2, top - 1, top} {
		checkValue(t, "["+row(n-1, "null")+"]", many(n))
		checkFault(t, "["+row(n-1, "1"), 2*(n-1), api.ErrEnd)
	}
	checkValue(t, "["+row(top-1, "[]")+"]", arr(slices.Repeat([]api.Value{arr()}, top-1)...))
	for _, more := range []string{"1", "null", "x", "01", "-", "nul", `"`, `"a"`, "[", "{", "[]", "\x01", "\u00e9", ","} {
		checkFault(t, "["+row(top-1, "1")+","+more, 2*top-1, api.ErrMany)
		checkFault(t, "["+row(top-1, "1")+", \t"+more+"]", 2*top+1, api.ErrMany)
		checkFault(t, "["+row(top/2-1, "[1]")+",["+more, 2*top-2, api.ErrMany)
	}
	checkFault(t, "["+row(top-1, "1")+",", 2*top-1, api.ErrEnd)
	checkFault(t, "["+row(top-1, "1")+", ", 2*top, api.ErrEnd)
	checkFault(t, "["+row(top, "1")+"]", 2*top-1, api.ErrMany)
	checkFault(t, "["+row(top+1, "1")+"]", 2*top-1, api.ErrMany)
	checkFault(t, "["+row(top-1, "1")+"}", 2*top-2, api.ErrByte)
	checkFault(t, "["+row(top-1, "1")+"] 1", 2*top, api.ErrMore)
	// An array that is open counts, and an object's keys do not.
	checkFault(t, strings.Repeat("[", api.MaxNest)+row(top-api.MaxNest+1, "1"), 2*top-api.MaxNest, api.ErrMany)
	checkFault(t, strings.Repeat("[", api.MaxNest)+row(top-api.MaxNest, "1")+",[", 2*top-api.MaxNest, api.ErrMany)
	var b strings.Builder
	for i := range top - 1 {
		fmt.Fprintf(&b, `"%d":0,`, i)
	}
	if v, f := json.Parse("{" + strings.TrimSuffix(b.String(), ",") + "}"); f.Err != api.OK || len(v.List) != top-1 || len(v.Keys) != top-1 {
		t.Errorf("%d keys: %v", top-1, f)
	}
	checkFault(t, "{"+b.String()+`"a":1}`, b.Len()+5, api.ErrMany)
	checkFault(t, "{"+b.String()+`"a"}`, b.Len()+4, api.ErrByte)
	checkFault(t, "{"+b.String()+`"0":1}`, b.Len()+1, api.ErrTwice)
}

// P2.1: all runs of a number's bytes, up to six, and what ends them.
func TestP2_1Numbers(t *testing.T) {
	number := regexp.MustCompile(`^-?(0|[1-9][0-9]*)(\.[0-9]+)?([eE][+-]?[0-9]+)?$`)
	var try func(s string, left int)
	try = func(s string, left int) {
		first := strings.IndexByte("-0123456789", (s + "x")[0]) >= 0
		switch {
		case s == "":
		case number.MatchString(s):
			checkValue(t, s, num(s))
			checkValue(t, "["+s+"\n,"+s+"]", arr(num(s), num(s)))
			checkValue(t, `{"a":`+s+"}", obj("a", num(s)))
			checkFault(t, s+"x", len(s), api.ErrMore)
			checkFault(t, "["+s+" "+s, len(s)+2, api.ErrByte)
		case first:
			checkFault(t, s, 0, api.ErrNumber)
			checkFault(t, "[ "+s+"]", 2, api.ErrNumber)
			checkFault(t, `{"a":`+s+"f", 5, api.ErrNumber)
		default:
			checkFault(t, s, 0, api.ErrByte)
			checkFault(t, "[1, "+s+"]", 4, api.ErrByte)
		}
		quit(t)
		if left > 0 {
			for _, more := range "-+.eE019" {
				try(s+string(more), left-1)
			}
		}
	}
	try("", 6)
	for _, s := range []string{"1234567890", "-9876543210.0123456789e-00000", "1e99999", strings.Repeat("9", 5000), "0." + strings.Repeat("0", 5000), "1e" + strings.Repeat("0", 5000), "2", "3", "4", "5", "6", "7", "8", "20", "08e", "-08"} {
		if number.MatchString(s) {
			checkValue(t, s, num(s))
		} else {
			checkFault(t, s, 0, api.ErrNumber)
		}
	}
}

// P2.1: each byte in a string, and behind a backslash.
func TestP2_1Bytes(t *testing.T) {
	short := map[byte]string{'"': "\"", '\\': "\\", '/': "/", 'b': "\b", 'f': "\f", 'n': "\n", 'r': "\r", 't': "\t"}
	for b := range 256 {
		c := byte(b)
		in, escaped := string([]byte{'"', 'a', c, 'z', '"'}), string([]byte{'"', 'a', '\\', c, 'z', '"'})
		stands, is := short[c]
		switch {
		case c >= 0x80:
			checkFault(t, in, 2, api.ErrUtf)
			checkFault(t, escaped, 3, api.ErrUtf)
			continue
		case is:
			checkValue(t, escaped, str("a"+stands+"z"))
		default:
			checkFault(t, escaped, 2, api.ErrEscape)
		}
		switch {
		case c < 32:
			checkFault(t, in, 2, api.ErrByte)
		case c == '"':
			checkFault(t, in, 3, api.ErrMore)
		case c == '\\':
			checkFault(t, in, 2, api.ErrEscape)
		default:
			checkValue(t, in, str(in[1:4]))
		}
	}
}

// P2.1: \u with all numbers, in small and great letters, and all code points as they are.
func TestP2_1Points(t *testing.T) {
	for r := rune(0); r <= 0xffff; r++ {
		for _, form := range []string{"%04x", "%04X"} {
			s := fmt.Sprintf(`"\u`+form+`"`, r)
			if r >= 0xd800 && r <= 0xdfff {
				checkFault(t, s, 1, api.ErrEscape)
			} else {
				checkValue(t, s, str(string(r)))
			}
		}
		quit(t)
	}
	for r := rune(32); r <= 0x10ffff; r++ {
		if r != '"' && r != '\\' && (r < 0xd800 || r > 0xdfff) {
			checkValue(t, `"`+string(r)+`"`, str(string(r)))
		}
		quit(t)
	}
}

// P2.1: pairs of surrogates, at their edges, and what is none.
func TestP2_1Surrogates(t *testing.T) {
	edges := []rune{0, 0x41, 0xd7ff, 0xd800, 0xd801, 0xd83d, 0xdbfe, 0xdbff, 0xdc00, 0xdc01, 0xde00, 0xdffe, 0xdfff, 0xe000, 0xffff}
	high := func(r rune) bool { return r >= 0xd800 && r <= 0xdbff }
	low := func(r rune) bool { return r >= 0xdc00 && r <= 0xdfff }
	for _, a := range edges {
		for _, b := range edges {
			s := fmt.Sprintf(`"x\u%04x\u%04Xy"`, a, b)
			switch {
			case high(a) && low(b):
				checkValue(t, s, str("x"+string(0x10000+(a-0xd800)*0x400+(b-0xdc00))+"y"))
			case high(a) || low(a):
				checkFault(t, s, 2, api.ErrEscape)
			case high(b) || low(b):
				checkFault(t, s, 8, api.ErrEscape)
			default:
				checkValue(t, s, str("x"+string(a)+string(b)+"y"))
			}
		}
	}
	for r := rune(0x10000); r <= 0x10ffff; r += 0xff {
		checkValue(t, fmt.Sprintf(`"\u%04X\u%04x"`, 0xd800+(r-0x10000)>>10, 0xdc00+(r-0x10000)&0x3ff), str(string(r)))
	}
	for _, between := range []string{"a", " ", "\ue000", `\\`, `\n`, "/", `\u0041`, `"`, ""} {
		if between != "" {
			checkFault(t, `"\ud83d`+between+`\ude00"`, 1, api.ErrEscape)
		}
		checkFault(t, `"\ude00`+between+`\ud83d"`, 1, api.ErrEscape)
	}
	for _, s := range []string{`\ud83d`, `\ud83d\`, `\ud83d\u`, `\ud83d\ude0`, `\ud83d\ude0"`, `\ud83d\ude0g"`, `\ud83d\Ude00"`, `\ud83d/ude00"`, `\ud83dude00"`, `\ud83d` + "\n", `\ud83d\q"`, `\ud83d\ud83d\ude00"`, `\udbff\udbff"`} {
		checkFault(t, `"`+s, 1, api.ErrEscape)
		checkFault(t, `["ab`+s, 4, api.ErrEscape)
	}
	checkFault(t, `"\ud83d\ude00\ud83d"`, 13, api.ErrEscape)
	checkFault(t, `"\ud83d\ude00\ude00"`, 13, api.ErrEscape)
	checkValue(t, `"\ud83d\ude00\ud83d\ude01\ud800\udc00\udbff\udfff"`, str("\U0001f600\U0001f601\U00010000\U0010ffff"))
}

// P2.1: each byte between tokens: four are white space.
func TestP2_1White(t *testing.T) {
	tokens := []string{"{", `"a"`, ":", "[", "1", ",", "true", ",", "[", "]", "]", ",", `"b"`, ":", "{", "}", ",", `"c"`, ":", `"d"`, "}"}
	want := obj("a,b,c", arr(num("1"), yes, arr()), api.Value{Kind: api.JObject}, str("d"))
	for gap := range len(tokens) + 1 {
		ahead, behind := strings.Join(tokens[:gap], ""), strings.Join(tokens[gap:], "")
		for b := range 0x80 {
			if b >= 32 && b < 0x7f && b != ' ' && b != ';' && b != '_' {
				continue // it may be a token, or a part of one
			}
			for _, times := range []int{1, 3} {
				s := ahead + strings.Repeat(string(rune(b)), times) + behind
				switch {
				case b == 9 || b == 10 || b == 13 || b == 32:
					checkValue(t, s, want)
				case gap == len(tokens):
					checkFault(t, s, len(ahead), api.ErrMore)
				default:
					checkFault(t, s, len(ahead), api.ErrByte)
				}
			}
		}
	}
	for _, s := range []string{"tr ue", "nul l", "[f alse]"} {
		checkFault(t, s, strings.IndexAny(s, "tnf"), api.ErrByte)
	}
	checkFault(t, "- 1", 0, api.ErrNumber)
	checkFault(t, "1. 5", 0, api.ErrNumber)
	checkFault(t, "1e 5", 0, api.ErrNumber)
	checkFault(t, "1 .5", 2, api.ErrMore)
	checkFault(t, "1 e5", 2, api.ErrMore)
	checkFault(t, "[1 0]", 3, api.ErrByte)
	checkFault(t, `"\u00 41"`, 1, api.ErrEscape)
	checkValue(t, `{" a ":" b "}`, obj(" a ", str(" b ")))
}

// teller tells the fault of a text by the chapter's list, with expressions for tokens and a list of what is open.
type teller struct {
	number, word, inside *regexp.Regexp
}

type opened struct {
	end  byte
	keys map[string]bool
}

func newTeller() teller {
	return teller{
		number: regexp.MustCompile(`^-?(0|[1-9][0-9]*)(\.[0-9]+)?([eE][+-]?[0-9]+)?$`),
		word:   regexp.MustCompile(`^(null|false|true)$`),
		inside: regexp.MustCompile(`^([^"\\\x00-\x1f]|\\["\\/bfnrt]|\\u([0-9a-cA-CefEF][0-9a-fA-F]{3}|[dD][0-7][0-9a-fA-F]{2}|[dD][89abAB][0-9a-fA-F]{2}\\u[dD][c-fC-F][0-9a-fA-F]{2}))*`),
	}
}

// quoted tells where a string that begins at i ends.
func (x teller) quoted(s string, i int) (int, api.Errno) {
	end := i + 1 + len(x.inside.FindString(s[i+1:]))
	switch {
	case end == len(s):
		return end, api.ErrEnd
	case s[end] == '\\':
		return end, api.ErrEscape
	case s[end] != '"':
		return end, api.ErrByte
	}
	return end + 1, api.OK
}

// run tells where what begins at i and consists of these letters ends.
func run(s string, i int, letters string) int {
	return len(s) - len(strings.TrimLeft(s[i:], letters))
}

// key tells where a key that begins at i ends.
func (x teller) key(s string, i int, in opened) (int, api.Errno) {
	if s[i] != '"' {
		return i, api.ErrByte
	}
	end, e := x.quoted(s, i)
	if e != api.OK {
		return end, e
	}
	var key string
	if library.Unmarshal([]byte(s[i:end]), &key) != nil || in.keys[key] {
		return i, api.ErrTwice
	}
	in.keys[key] = true
	return end, api.OK
}

// simple tells where a value that opens nothing ends.
func (x teller) simple(s string, i int) (int, api.Errno) {
	c := s[i]
	switch {
	case c == '-' || c >= '0' && c <= '9':
		end := run(s, i, "0123456789+-.eE")
		if !x.number.MatchString(s[i:end]) {
			return i, api.ErrNumber
		}
		return end, api.OK
	case c >= 'a' && c <= 'z':
		end := run(s, i, "abcdefghijklmnopqrstuvwxyz")
		if !x.word.MatchString(s[i:end]) {
			return i, api.ErrByte
		}
		return end, api.OK
	case c == '"':
		return x.quoted(s, i)
	}
	return i, api.ErrByte
}

// fault is what is wrong with s. What may stand next: v a value, V a value or ], k a key, K a key or }, c a colon, m a comma or an end.
func (x teller) fault(s string) api.Fault {
	if len(s) > api.MaxJSON {
		return api.Fault{Err: api.ErrLong}
	}
	if !utf8.ValidString(s) {
		marked := strings.ToValidUTF8(strings.ReplaceAll(s, "\ufffd", "..."), "\ufffd") // what is valid keeps its place
		return api.Fault{At: strings.IndexRune(marked, '\ufffd'), Err: api.ErrUtf}
	}
	var open []opened
	next, i, values := byte('v'), 0, 0
	for {
		i = run(s, i, " \t\n\r")
		ends := next != 'v' && len(open) == 0
		switch {
		case ends && i < len(s):
			return api.Fault{At: i, Err: api.ErrMore}
		case ends:
			return api.Fault{}
		case i == len(s):
			return api.Fault{At: i, Err: api.ErrEnd}
		}
		var in opened
		if len(open) > 0 {
			in = open[len(open)-1]
		}
		c, e := s[i], api.OK
		switch {
		case c == in.end && (next == 'V' || next == 'K' || next == 'm'):
			open, next, i = open[:len(open)-1], 'm', i+1
		case next == 'k' || next == 'K':
			i, e = x.key(s, i, in)
			next = 'c'
		case next == 'c' && c == ':':
			next, i = 'v', i+1
		case next == 'm' && c == ',' && in.end == '}':
			next, i = 'k', i+1
		case next == 'm' && c == ',':
			next, i = 'v', i+1
		case next == 'c' || next == 'm':
			e = api.ErrByte
		case values == api.MaxValues:
			e = api.ErrMany
		case (c == '[' || c == '{') && len(open) == api.MaxNest:
			e = api.ErrNest
		case c == '[':
			open, next, i, values = append(open, opened{']', nil}), 'V', i+1, values+1
		case c == '{':
			open, next, i, values = append(open, opened{'}', map[string]bool{}}), 'K', i+1, values+1
		default:
			i, e = x.simple(s, i)
			next, values = 'm', values+1
		}
		if e != api.OK {
			return api.Fault{At: i, Err: e}
		}
	}
}

// told is the value of a text that has no fault, as the library tells it.
func told(t *testing.T, s string) api.Value {
	t.Helper()
	d := library.NewDecoder(strings.NewReader(s))
	d.UseNumber()
	v, end := toldNext(d)
	if _, err := d.Token(); err != io.EOF || end {
		t.Fatalf("the library does not read %s", short(s))
	}
	return v
}

// toldNext is the next value, or an end.
func toldNext(d *library.Decoder) (v api.Value, end bool) {
	token, _ := d.Token()
	switch x := token.(type) {
	case nil:
		return null, false
	case bool:
		if x {
			return yes, false
		}
		return no, false
	case library.Number:
		return num(string(x)), false
	case string:
		return str(x), false
	case library.Delim:
		v.Kind = map[library.Delim]uint8{'[': api.JArray, '{': api.JObject}[x]
		if v.Kind == 0 {
			return v, true
		}
	}
	for {
		inner, end := toldNext(d)
		if end {
			return v, false
		}
		if v.Kind == api.JObject {
			v.Keys = append(v.Keys, inner.Text)
			inner, _ = toldNext(d)
		}
		v.List = append(v.List, inner)
	}
}

// checkTold holds what Parse answers against the teller and the library.
func checkTold(t *testing.T, x teller, s string) api.Fault {
	t.Helper()
	want := x.fault(s)
	if want.Err == api.OK {
		checkValue(t, s, told(t, s))
	} else {
		checkFault(t, s, want.At, want.Err)
	}
	valid := library.Valid([]byte(s))
	if want.Err == api.OK && !valid || (want.Err == api.ErrByte || want.Err == api.ErrEnd || want.Err == api.ErrNumber || want.Err == api.ErrMore) && valid {
		t.Errorf("%s: the library says %v", short(s), valid)
	}
	quit(t)
	return want
}

// P2.1: all texts of some tokens, as long as they may go on.
func TestP2_1All(t *testing.T) {
	x := newTeller()
	for _, c := range []struct {
		tokens string
		most   int
	}{
		{"[|]|{|}|,|:|\"a\"|\"b\"|1| ", 7},
		{"[|]|{|}|,|:|\"|a|\\|1|0|-|.|e|null|\n|\x01|\u00e9|\xc3", 5},
		{"\"|\\|u|0|d83d|\\ude00|00e9|\\\"|n|/|a|\x1f|\u20ac", 6},
		{"-|0|1|.|e|E|+| |]|,|true|t|x", 5},
	} {
		tokens := strings.Split(c.tokens, "|")
		var try func(s string, left int)
		try = func(s string, left int) {
			f := checkTold(t, x, s)
			if left > 0 && (f.Err == api.OK || f.At == len(s) || f.Err == api.ErrNumber || f.Err == api.ErrEscape || f.Err == api.ErrUtf) {
				for _, more := range tokens {
					try(s+more, left-1)
				}
			}
		}
		try("", c.most)
	}
}

// P2.1: texts in which some bytes are altered, left out, put in or cut off.
func TestP2_1Altered(t *testing.T) {
	x := newTeller()
	random := rand.New(rand.NewPCG(1, 2))
	texts := []string{
		`{"a":[1,-0.5e3,"\u00e9"],"b":{"c":null,"d":true},"e":"\ud83d\ude00"}`,
		"[ [ ] , { } , [ false , 0 ] , { \"k\" : \"v\" , \"l\" : [ 1.25E+7 ] } ]",
		"{\"type\":\"record\",\"name\":\"R\",\n\t\"fields\":[{\"name\":\"f\",\"type\":[\"null\",\"int\"],\"default\":null}]}",
		"[\"\\\"\\\\\\/\\b\\f\\n\\r\\t\\u0000\",\"\u00e9\u20ac\U0001f600\",\"\",{\"\":\"\"}]",
		strings.Repeat(`[{"a":`, 24) + strings.Repeat("}]", 24),
		strings.Repeat("[", 47) + "[],{}" + strings.Repeat("]", 47),
	}
	bits := []string{"[", "]", "{", "}", ",", ":", "\"", "\\", "0", "1", "-", ".", "e", "null", "true", " ", "\n", "\x00", "\x1f", "\x7f", "\x80", "\xff", "\u00e9", "\\u", "\\ud83d", "\\ude00", "\"a\"", "\"a\":", "d", "F"}
	for range 60000 {
		s := texts[random.IntN(len(texts))]
		for range 1 + random.IntN(3) {
			at := random.IntN(len(s) + 1)
			bit, to := bits[random.IntN(len(bits))], min(at+random.IntN(3), len(s))
			switch random.IntN(8) {
			case 0:
				s = s[:at]
			case 1, 2:
				s = s[:at] + s[to:]
			case 3, 4:
				s = s[:at] + bit + s[to:]
			default:
				s = s[:at] + bit + s[at:]
			}
		}
		checkTold(t, x, s)
	}
	for range 20000 {
		b := make([]byte, random.IntN(12))
		for i := range b {
			b[i] = byte(random.IntN(256))
		}
		checkTold(t, x, string(b))
	}
	for a := range 256 {
		checkTold(t, x, string([]byte{byte(a)}))
		for b := range 256 {
			checkTold(t, x, string([]byte{byte(a), byte(b)}))
		}
	}
}
