package parse

import (
	"strings"

	"bobstay/expand"
)

const (
	blanks    = " \t"
	partsRule = ":!" // what parts a rule's targets from its sources
)

// free is where the first of some bytes stands that no use takes: -1, if there is
// none. A use that does not end takes all behind it.
func free(s, bytes string) int {
	for at := 0; at < len(s); {
		if strings.IndexByte(bytes, s[at]) >= 0 {
			return at
		}
		size := 1
		if s[at] == '$' {
			size = expand.Use(s[at:])
		}
		if size == 0 {
			return -1
		}
		at += size
	}
	return -1
}
