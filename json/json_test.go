package json_test

import (
	"math"
	"slices"
	"strconv"
	"strings"
	"testing"

	"codicil/api"
	"codicil/json"
)

var (
	null = api.Value{Kind: api.JNull}
	no   = api.Value{Kind: api.JFalse}
	yes  = api.Value{Kind: api.JTrue}
)

func num(s string) api.Value {
	return api.Value{Kind: api.JNumber, Text: s}
}

func str(s string) api.Value {
	return api.Value{Kind: api.JString, Text: s}
}

func arr(list ...api.Value) api.Value {
	return api.Value{Kind: api.JArray, List: list}
}

// obj has keys that commas separate.
func obj(keys string, list ...api.Value) api.Value {
	return api.Value{Kind: api.JObject, Keys: strings.Split(keys, ","), List: list}
}

// nest is n arrays, one in another, and what the innermost one has.
func nest(n int, inner ...api.Value) api.Value {
	v := arr(inner...)
	for range n - 1 {
		v = arr(v)
	}
	return v
}

// many is an array that has n values, itself among them.
func many(n int) api.Value {
	return arr(slices.Repeat([]api.Value{null}, n-1)...)
}

// same holds values against each other without the package; an empty list is none.
func same(a, b api.Value) bool {
	return a.Kind == b.Kind && a.Text == b.Text && slices.Equal(a.Keys, b.Keys) && slices.EqualFunc(a.List, b.List, same)
}

func zero(v api.Value) bool {
	return same(v, api.Value{})
}

// short keeps what a failed test tells readable.
func short(s string) string {
	if len(s) > 200 {
		return strconv.Quote(s[:100]) + ".." + strconv.Quote(s[len(s)-50:])
	}
	return strconv.Quote(s)
}

// cells are the places of all lists of v, with the room that they have behind them.
type cells struct {
	values map[*api.Value]bool
	keys   map[*string]bool
	twice  bool
}

func (c *cells) add(v api.Value) {
	list, keys := v.List[:cap(v.List)], v.Keys[:cap(v.Keys)]
	for i := range list {
		c.twice = c.twice || c.values[&list[i]]
		c.values[&list[i]] = true
	}
	for i := range keys {
		c.twice = c.twice || c.keys[&keys[i]]
		c.keys[&keys[i]] = true
	}
	for _, inner := range v.List {
		c.add(inner)
	}
}

// checkOwn: no two lists of v share memory, and none has some of the others'.
func checkOwn(t *testing.T, what string, v api.Value, others ...api.Value) {
	t.Helper()
	own := cells{values: map[*api.Value]bool{}, keys: map[*string]bool{}}
	own.add(v)
	if own.twice {
		t.Errorf("%s: two lists share memory", short(what))
	}
	others = slices.Clone(others)
	for _, other := range others {
		theirs := cells{values: map[*api.Value]bool{}, keys: map[*string]bool{}}
		theirs.add(other)
		for at := range own.values {
			own.twice = own.twice || theirs.values[at]
		}
		for at := range own.keys {
			own.twice = own.twice || theirs.keys[at]
		}
		if own.twice {
			t.Errorf("%s: a list is an argument's", short(what))
		}
	}
}

// samples are values of which no two are equal, some of them invalid.
func samples() []api.Value {
	return []api.Value{
		{}, null, no, yes, {Kind: 8}, {Kind: 255},
		num(""), num("0"), num("-0"), num("1"), num("1.0"), num("1e0"), num("1E0"), num("01"),
		str(""), str("0"), str("1"), str("a"), str("A"), str("\xff"), str("\u00e9"), str("e\u0301"), str("\ufffd"),
		{Kind: api.JNull, Text: "null"}, {Kind: api.JNull, Keys: []string{"a"}}, {Kind: api.JNull, List: []api.Value{null}},
		arr(), arr(null), arr(null, null), arr(null, no), arr(no, null), arr(null, no, yes), arr(arr()), arr(arr(), arr()), arr(arr(arr())), arr(num("1")), arr(num("2")), arr(arr(num("1"))), arr(arr(num("2"))),
		{Kind: api.JArray, Text: "a"}, {Kind: api.JArray, Keys: []string{""}},
		{Kind: api.JObject}, obj("a", null), obj("b", null), obj("", null), obj("a", no), obj("a", num("1")), obj("a,b", null, no), obj("b,a", no, null), obj("a,b", no, null), obj("a,a", null, no), obj("a,b", null), obj("a", null, no), obj("a", null, null),
		obj("a", obj("a", null)), obj("a", obj("b", null)), obj("a", obj("a", no)), obj("a", obj("a,b", null, null)), obj("a", arr(obj("a", num("1")))), obj("a", arr(obj("a", num("2")))), obj("a", arr(obj("c", num("1")))),
		{Kind: api.JObject, Keys: []string{"a"}}, {Kind: api.JObject, List: []api.Value{null}}, {Kind: api.JObject, Text: "a"},
		{Text: "a"}, {Keys: []string{"a"}}, {Keys: []string{"a", "b"}}, {Keys: []string{"b", "a"}}, {List: []api.Value{{}}}, {List: []api.Value{{}, {}}},
	}
}

// P2.3
func TestP2_3Same(t *testing.T) {
	left, right := samples(), samples()
	for i, a := range left {
		for j, b := range right {
			if json.Same(a, b) != (i == j) {
				t.Errorf("Same(%v, %v) = %v", a, b, i != j)
			}
			if got := json.Same(arr(null, obj("k", a)), arr(null, obj("k", b))); got != (i == j) {
				t.Errorf("Same of %v and %v inside = %v", a, b, got)
			}
		}
		if !same(a, right[i]) {
			t.Errorf("Same changed %v", right[i])
		}
	}
	for _, pair := range [][2]api.Value{
		{{Kind: api.JArray}, {Kind: api.JArray, Keys: []string{}, List: []api.Value{}}},
		{{Kind: api.JString, Text: "a"}, {Kind: api.JString, Text: "a", Keys: []string{}, List: []api.Value{}}},
		{{}, {Keys: []string{}, List: []api.Value{}}},
		{arr(api.Value{Kind: api.JObject}), arr(api.Value{Kind: api.JObject, Keys: []string{}, List: []api.Value{}})},
	} {
		if !json.Same(pair[0], pair[1]) || !json.Same(pair[1], pair[0]) {
			t.Errorf("an empty list is another than none: %v, %v", pair[0], pair[1])
		}
	}
}

// P2.3: what differs stands far behind, or ends earlier.
func TestP2_3SameLong(t *testing.T) {
	list := slices.Repeat([]api.Value{num("1")}, 5000)
	for _, at := range []int{0, 1, 2500, 4998, 4999} {
		other := slices.Clone(list)
		other[at] = num("2")
		if json.Same(arr(list...), arr(other...)) || json.Same(arr(other...), arr(list...)) {
			t.Errorf("another value at %d", at)
		}
	}
	for _, n := range []int{0, 1, 4999} {
		if json.Same(arr(list...), arr(list[:n]...)) || json.Same(arr(list[:n]...), arr(list...)) {
			t.Errorf("the first %d of %d", n, len(list))
		}
	}
	if !json.Same(arr(list...), arr(slices.Clone(list)...)) {
		t.Error("equal ones")
	}
}

// P2.3
func TestP2_3Copy(t *testing.T) {
	before := samples()
	for i, v := range samples() {
		c := json.Copy(v)
		if !same(c, before[i]) || !same(v, before[i]) {
			t.Errorf("Copy(%v) = %v", before[i], c)
		}
		checkOwn(t, "a copy", c, v)
	}
	whole := arr(samples()...)
	c := json.Copy(whole)
	checkOwn(t, "a copy of all", c, whole)
	if !same(c, arr(before...)) {
		t.Error("a copy of all is another")
	}
}

// P2.3: a copy's lists are its own, also where those of the argument are pieces of one.
func TestP2_3CopyShared(t *testing.T) {
	list := []api.Value{num("1"), num("2"), num("3")}
	keys := []string{"a", "b", "c"}
	piece := api.Value{Kind: api.JObject, Keys: keys[:2], List: list[:2]}
	v := arr(piece, piece, arr(list[1:]...), arr(list[:1]...))
	c := json.Copy(v)
	checkOwn(t, "a copy of pieces", c, v)
	c.List[0].List = append(c.List[0].List, null)
	c.List[0].Keys = append(c.List[0].Keys, "z")
	c.List[0].List[0] = no
	c.List[0].Keys[0] = "y"
	if !same(c.List[1], obj("a,b", num("1"), num("2"))) {
		t.Errorf("its neighbour was changed: %v", c.List[1])
	}
	if !same(arr(list...), arr(num("1"), num("2"), num("3"))) || strings.Join(keys, "") != "abc" {
		t.Errorf("the argument was changed: %v, %v", list, keys)
	}
}

// P2.3
func TestP2_3Get(t *testing.T) {
	twice := obj("a,b,a,b", num("1"), num("2"), num("3"), num("4"))
	for _, c := range []struct {
		v    api.Value
		key  string
		want api.Value
		is   bool
	}{
		{obj("a", num("1")), "a", num("1"), true},
		{obj("a,b,c", num("1"), num("2"), num("3")), "a", num("1"), true},
		{obj("a,b,c", num("1"), num("2"), num("3")), "b", num("2"), true},
		{obj("a,b,c", num("1"), num("2"), num("3")), "c", num("3"), true},
		{obj("a", arr(obj("b", null))), "a", arr(obj("b", null)), true},
		{obj("a", null), "a", null, true},
		{obj("a", api.Value{}), "a", api.Value{}, true},
		{obj(",a", num("1"), num("2")), "", num("1"), true},
		{obj("a,", num("1"), num("2")), "", num("2"), true},
		{obj("\u00e9,e\u0301", num("1"), num("2")), "e\u0301", num("2"), true},
		{obj("\xff", num("1")), "\xff", num("1"), true},
		{twice, "a", num("1"), true},
		{twice, "b", num("2"), true},
		{obj("a", num("1")), "A", api.Value{}, false},
		{obj("a", num("1")), "", api.Value{}, false},
		{obj("a", num("1")), "ab", api.Value{}, false},
		{obj("ab", num("1")), "a", api.Value{}, false},
		{obj("a", obj("b", num("1"))), "b", api.Value{}, false},
		{obj("\ufffd", num("1")), "\xff", api.Value{}, false},
		{api.Value{Kind: api.JObject}, "", api.Value{}, false},
		{api.Value{Kind: api.JObject}, "a", api.Value{}, false},
		{api.Value{Kind: api.JObject, Keys: []string{"a"}}, "a", api.Value{}, false},
		{api.Value{Kind: api.JObject, Keys: []string{"a", "b"}, List: []api.Value{null}}, "a", null, true},
		{api.Value{Kind: api.JObject, Keys: []string{"a", "b"}, List: []api.Value{null}}, "b", api.Value{}, false},
		{api.Value{Kind: api.JObject, List: []api.Value{null}}, "", api.Value{}, false},
		{api.Value{Kind: api.JArray, Keys: []string{"a"}, List: []api.Value{null}}, "a", api.Value{}, false},
		{api.Value{Keys: []string{"a"}, List: []api.Value{null}}, "a", api.Value{}, false},
		{api.Value{Kind: 8, Keys: []string{"a"}, List: []api.Value{null}}, "a", api.Value{}, false},
		{arr(obj("a", null)), "a", api.Value{}, false},
		{str("a"), "a", api.Value{}, false},
		{null, "", api.Value{}, false},
		{api.Value{}, "", api.Value{}, false},
	} {
		got, is := json.Get(c.v, c.key)
		if !same(got, c.want) || is != c.is {
			t.Errorf("Get(%v, %q) = %v, %v", c.v, c.key, got, is)
		}
	}
}

// P2.3: what Get answers is not a part of the object.
func TestP2_3GetOwn(t *testing.T) {
	v := obj("a,b", arr(num("1"), obj("k,l", num("2"), arr(null))), num("3"))
	before := json.Copy(v)
	got, is := json.Get(v, "a")
	if !is || !same(got, v.List[0]) {
		t.Fatalf("Get = %v, %v", got, is)
	}
	checkOwn(t, "what Get answers", got, v)
	got.List[1].Keys[0] = "z"
	got.List[1].List[0] = no
	got.List[0] = yes
	if !same(v, before) {
		t.Errorf("the object was changed: %v", v)
	}
}

// P2.3
func TestP2_3Int(t *testing.T) {
	for s, want := range map[string]int64{
		"0": 0, "-0": 0, "1": 1, "-1": -1, "7": 7, "10": 10, "-10": -10, "100": 100, "1234567890": 1234567890,
		"2147483647": math.MaxInt32, "2147483648": math.MaxInt32 + 1, "-2147483648": math.MinInt32, "-2147483649": math.MinInt32 - 1, "4294967296": 1 << 32,
		"9007199254740993":     1<<53 + 1,
		"999999999999999999":   999999999999999999,
		"9223372036854775806":  math.MaxInt64 - 1,
		"9223372036854775807":  math.MaxInt64,
		"-9223372036854775807": math.MinInt64 + 1,
		"-9223372036854775808": math.MinInt64,
	} {
		if n, is := json.Int(num(s)); n != want || !is {
			t.Errorf("Int(%s) = %d, %v", s, n, is)
		}
		if n, is := json.Int(str(s)); n != 0 || is {
			t.Errorf("Int of the string %s = %d, %v", s, n, is)
		}
	}
	for _, s := range []string{
		"9223372036854775808", "9223372036854775809", "-9223372036854775809", "9223372036854775817", "10000000000000000000", "18446744073709551615", "18446744073709551616", "18446744073709551617", "-18446744073709551615", "36893488147419103233",
		strings.Repeat("9", 400), "-" + strings.Repeat("9", 400), "1" + strings.Repeat("0", 100000),
		"1.0", "1.", "-1.5", "0.0", "-0.0", "1e2", "1E2", "1e0", "0e0", "1e+2", "10e-1", "1.0e1",
		"", "-", "--1", "+1", "-+1", "1-", "1 ", " 1", "- 1", "a", "1a", "0x10", "0b1", "0o7", "1_0", "1,0", "\u0661", "\uff11", "1\x00", "null", "true", "Infinity", "NaN",
	} {
		if n, is := json.Int(num(s)); n != 0 || is {
			t.Errorf("Int(%s) = %d, %v", short(s), n, is)
		}
	}
	for _, v := range []api.Value{{}, null, no, yes, str(""), arr(), arr(num("1")), obj("a", num("1")), {Kind: api.JObject}, {Text: "1"}, {Kind: api.JNull, Text: "1"}, {Kind: api.JTrue, Text: "1"}, {Kind: api.JArray, Text: "1"}, {Kind: api.JObject, Text: "1"}, {Kind: 8, Text: "1"}, {Kind: 255, Text: "1"}} {
		if n, is := json.Int(v); n != 0 || is {
			t.Errorf("Int(%v) = %d, %v", v, n, is)
		}
	}
}

// Each function ends, however deep a value is.
func TestP2_3Deep(t *testing.T) {
	const deep = 1 << 17
	for _, c := range []struct {
		v    api.Value
		want api.Errno
	}{
		{nest(deep), api.ErrNest}, {nest(deep, null), api.ErrNest}, {nest(deep, api.Value{}), api.ErrForm}, {nest(deep, str("\xff")), api.ErrUtf}, {nest(deep, obj("a,a", null, null)), api.ErrTwice},
	} {
		if e := json.May(c.v); e != c.want {
			t.Errorf("May of %d arrays = %v, want %v", deep, e, c.want)
		}
		if s, e := json.Print(c.v); s != "" || e != c.want {
			t.Errorf("Print of %d arrays = %v, want %v", deep, e, c.want)
		}
		copied := json.Copy(c.v)
		if !json.Same(c.v, copied) || json.Same(c.v, copied.List[0]) {
			t.Errorf("a copy of %d arrays is another", deep)
		}
		if got, is := json.Get(obj("a,b", null, c.v), "b"); !is || !json.Same(got, copied) {
			t.Errorf("Get of %d arrays", deep)
		}
	}
	if json.Same(nest(deep, null), nest(deep, no)) || json.Same(nest(deep), nest(deep+1)) {
		t.Error("what differs deep inside")
	}
}
