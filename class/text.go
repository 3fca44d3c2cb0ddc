package class

import (
	"strings"

	"riddle/api"
)

// What is more than itself in a pattern, and what is so within brackets.
const (
	special      = `.[](){}|*+?^$\`
	specialInner = `][\^-`
)

const digits = "0123456789abcdef"

// Literal answers b as it stands in a pattern.
func Literal(b byte) string {
	switch {
	case !isVisible(b):
		return number(b)
	case strings.IndexByte(special, b) >= 0:
		return `\` + string(b)
	}
	return string(b)
}

// Inner answers b as it stands within brackets.
func Inner(b byte) string {
	if !isVisible(b) || strings.IndexByte(specialInner, b) >= 0 {
		return number(b)
	}
	return string(b)
}

// Text answers c as it stands in a pattern.
func Text(c api.Class) string {
	if b, is := First(c); is && c == Of(b) {
		return Literal(b)
	}
	var text strings.Builder
	text.WriteByte('[')
	for lo, hi := range Runs(c) {
		text.WriteString(runText(lo, hi))
	}
	text.WriteByte(']')
	return text.String()
}

func runText(lo, hi byte) string {
	switch hi - lo {
	case 0:
		return Inner(lo)
	case 1:
		return Inner(lo) + Inner(hi)
	}
	return Inner(lo) + "-" + Inner(hi)
}

func isVisible(b byte) bool { return b >= 33 && b <= 126 }

// number is b in the form that any byte can have.
func number(b byte) string { return string([]byte{'\\', 'x', digits[b>>4], digits[b&15]}) }
