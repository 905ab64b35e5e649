package refs

import (
	"bytes"
	"cmp"
	"strings"

	"satchel/api"
)

// compareStamps orders stamps by name; of one name the one that counts comes first.
func compareStamps(a, b api.Stamp) int {
	// What two sides know is mostly the same.
	if a == b {
		return 0
	}
	return cmp.Or(strings.Compare(a.Name, b.Name), cmp.Compare(b.Seq, a.Seq), bytes.Compare(b.ID[:], a.ID[:]))
}
