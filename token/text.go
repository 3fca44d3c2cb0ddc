package token

import (
	"strconv"

	"riddle/api"
	"riddle/class"
)

// Text answers a token as it stands in a pattern, nothing of one that may not be.
func Text(t api.Token) string {
	if Check(t) != api.OK {
		return ""
	}
	switch t.Kind {
	case api.TkByte:
		return class.Literal(t.Byte)
	case api.TkClass:
		return classText(t.Class, t.Not)
	case api.TkDot:
		return "."
	case api.TkOpen:
		return "(?:"
	case api.TkClose:
		return ")"
	case api.TkBar:
		return "|"
	case api.TkHat:
		return "^"
	case api.TkDollar:
		return "$"
	}
	return repeatText(t)
}

// Print answers tokens' texts, one behind the other.
func Print(l ...api.Token) []byte {
	var all []byte
	for _, t := range l {
		all = append(all, Text(t)...)
	}
	return all
}

func classText(c api.Class, not bool) string {
	text := class.Text(c)
	// Without brackets one byte would be read as a byte, not as a class.
	if b, is := class.First(c); is && c == class.Of(b) {
		text = "[" + class.Inner(b) + "]"
	}
	if not {
		text = "[^" + text[1:]
	}
	return text
}

func repeatText(t api.Token) string {
	text := boundsText(t.Least, t.Most)
	if t.Lazy {
		text += "?"
	}
	return text
}

func boundsText(least, most int) string {
	from := strconv.Itoa(least)
	switch {
	case least == 0 && most == endless:
		return "*"
	case least == 1 && most == endless:
		return "+"
	case least == 0 && most == 1:
		return "?"
	case most == least:
		return "{" + from + "}"
	case most == endless:
		return "{" + from + ",}"
	}
	return "{" + from + "," + strconv.Itoa(most) + "}"
}
