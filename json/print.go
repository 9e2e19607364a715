package json

import (
	"strings"

	"codicil/api"
	"codicil/runes"
)

const hexDigits = "0123456789abcdef"

func May(v api.Value) api.Errno {
	_, e := Print(v)
	return e
}

func Print(v api.Value) (string, api.Errno) {
	if e := check(v); e != api.OK {
		return "", e
	}
	var b strings.Builder
	write(&b, v)
	return fitting(b.String())
}

func Quote(s string) (string, api.Errno) {
	if !runes.Valid(s) {
		return "", api.ErrUtf
	}
	if len(s) > api.MaxJSON {
		return "", api.ErrLong
	}
	var b strings.Builder
	quote(&b, s)
	return fitting(b.String())
}

func fitting(text string) (string, api.Errno) {
	if len(text) > api.MaxJSON {
		return "", api.ErrLong
	}
	return text, api.OK
}

// check tells the first of May's errors. Of a text that is too long it tells only what its strings alone tell, so that what is left to be written is small.
func check(v api.Value) api.Errno {
	var utf, twice, nest bool
	values, bytes := 0, 0
	for around, part := range all(v) {
		if !formed(part) {
			return api.ErrForm
		}
		utf = utf || !encoded(part)
		twice = twice || repeats(part.Keys)
		nest = nest || hasList(part.Kind) && around >= api.MaxNest
		values++
		bytes += letters(part)
	}
	switch {
	case utf:
		return api.ErrUtf
	case twice:
		return api.ErrTwice
	case nest:
		return api.ErrNest
	case values > api.MaxValues:
		return api.ErrMany
	case bytes > api.MaxJSON:
		return api.ErrLong
	}
	return api.OK
}

// formed: v alone, without what its List has, is of its kind.
func formed(v api.Value) bool {
	noText, noKeys, noList := v.Text == "", len(v.Keys) == 0, len(v.List) == 0
	switch v.Kind {
	case api.JNull, api.JFalse, api.JTrue:
		return noText && noKeys && noList
	case api.JNumber:
		return isNumber(v.Text) && noKeys && noList
	case api.JString:
		return noKeys && noList
	case api.JArray:
		return noText && noKeys
	case api.JObject:
		return noText && len(v.Keys) == len(v.List)
	}
	return false
}

func encoded(v api.Value) bool {
	for _, key := range v.Keys {
		if !runes.Valid(key) {
			return false
		}
	}
	return runes.Valid(v.Text)
}

func repeats(list []string) bool {
	has := keys{}
	for _, key := range list {
		if !has.add(key) {
			return true
		}
	}
	return false
}

func hasList(kind uint8) bool {
	return kind == api.JArray || kind == api.JObject
}

func letters(v api.Value) int {
	n := len(v.Text)
	for _, key := range v.Keys {
		n += len(key)
	}
	return n
}

func write(b *strings.Builder, v api.Value) {
	switch v.Kind {
	case api.JNull:
		b.WriteString("null")
	case api.JFalse:
		b.WriteString("false")
	case api.JTrue:
		b.WriteString("true")
	case api.JNumber:
		b.WriteString(v.Text)
	case api.JString:
		quote(b, v.Text)
	case api.JArray:
		b.WriteByte('[')
		writeList(b, v)
		b.WriteByte(']')
	case api.JObject:
		b.WriteByte('{')
		writeList(b, v)
		b.WriteByte('}')
	}
}

func writeList(b *strings.Builder, v api.Value) {
	for i, inner := range v.List {
		if i > 0 {
			b.WriteByte(',')
		}
		if v.Kind == api.JObject {
			quote(b, v.Keys[i])
			b.WriteByte(':')
		}
		write(b, inner)
	}
}

func quote(b *strings.Builder, s string) {
	b.WriteByte('"')
	for _, r := range s {
		short := strings.IndexRune(shortBytes, r)
		switch {
		case short >= 0:
			b.WriteByte('\\')
			b.WriteByte(shortLetters[short])
		case r < ' ':
			b.WriteString(`\u00`)
			b.WriteByte(hexDigits[r>>4])
			b.WriteByte(hexDigits[r&0xf])
		default:
			b.WriteRune(r)
		}
	}
	b.WriteByte('"')
}
