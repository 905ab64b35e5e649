package disk

import (
	"maps"
	"slices"

	"satchel/api"
)

// maxFileName: bytes of a file's name.
const maxFileName = 64

// names tells which name leads to which file; no two lead to one.
type names map[string]*file

// change of the names: a file that is made stands under to; else the one of the name from goes to to or, if that is empty, away.
type change struct {
	from, to string
	made     *file
}

func (n names) carry(changes []change) {
	for _, c := range changes {
		f := c.made
		if f == nil {
			f = n[c.from]
			delete(n, c.from)
		}
		if c.to != "" {
			n[c.to] = f
		}
	}
}

func (n names) sorted() []string { return slices.Sorted(maps.Keys(n)) }

// size tells how many bytes are seen in all files together.
func (n names) size() int {
	sum := 0
	for _, f := range n {
		sum += f.size
	}
	return sum
}

func isName(name string) bool {
	if len(name) < 1 || len(name) > maxFileName {
		return false
	}
	for i := range len(name) {
		if !isNameByte(name[i]) {
			return false
		}
	}
	return true
}

func isNameByte(b byte) bool {
	return b >= 'a' && b <= 'z' || b >= '0' && b <= '9' || b == '.' || b == '-' || b == '_'
}

// isImage tells whether a disk of that room can hold just these files.
func isImage(img []api.FileBytes, room int) bool {
	if len(img) > api.MaxDisk {
		return false
	}
	left := room
	for i, f := range img {
		if !isName(f.Name) || i > 0 && f.Name <= img[i-1].Name || len(f.Data) > left {
			return false
		}
		left -= len(f.Data)
	}
	return true
}
