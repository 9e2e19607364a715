package sha

import "strings"

// digits stand each at the place of its value; capital letters are in no Hex.
const digits = "0123456789abcdef"

func Hex(s string) string {
	h := make([]byte, 0, 2*len(s))
	for i := range len(s) {
		h = append(h, digits[s[i]>>4], digits[s[i]&0xf])
	}
	return string(h)
}

func Bytes(h string) (string, bool) {
	if len(h)%2 != 0 {
		return "", false
	}
	b := make([]byte, 0, len(h)/2)
	for i := 0; i < len(h); i += 2 {
		high := strings.IndexByte(digits, h[i])
		low := strings.IndexByte(digits, h[i+1])
		if high < 0 || low < 0 {
			return "", false
		}
		b = append(b, byte(high<<4|low))
	}
	return string(b), true
}
