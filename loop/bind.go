package loop

import (
	"strings"

	"bobstay/expand"
)

// binding is a name that is bound: its uses, and what becomes of them.
type binding struct {
	uses  []string
	value string
}

// newBinding binds a name to a value.
func newBinding(name, value string) binding {
	b := binding{value: expand.Quote(value)}
	b.take("${" + name + "}")
	b.take("$(" + name + ")")
	if len(name) == 1 && name != "$" {
		b.take("$" + name)
	}
	return b
}

// take adds a use, if the text is one as a whole: where a use ends hangs on
// nothing behind it, so that a text which begins with it always begins with a use.
func (b *binding) take(use string) {
	if expand.Use(use) == len(use) {
		b.uses = append(b.uses, use)
	}
}

// starts is how many bytes of a use of the name a text begins with.
func (b binding) starts(s string) int {
	for _, use := range b.uses {
		if strings.HasPrefix(s, use) {
			return len(use)
		}
	}
	return 0
}

// text is a text with the value in place of the name. What lies within other uses
// is met by going on right behind their brackets, also where these do not end.
func (b binding) text(s string) string {
	var made strings.Builder
	for {
		at := strings.IndexByte(s, '$')
		if at < 0 {
			made.WriteString(s)
			return made.String()
		}
		made.WriteString(s[:at])
		s = s[at:]
		n := b.starts(s)
		if n > 0 {
			made.WriteString(b.value)
		} else {
			n = min(2, len(s)) // a $ takes the byte behind it, so that a second $ begins no use
			made.WriteString(s[:n])
		}
		s = s[n:]
	}
}
