package bundle

import (
	"satchel/api"
	"satchel/refs"
)

const longestSite = 64 // bytes of a site's name

// named tells whether all names of a header may be.
func named(h api.Header) bool {
	if !isSite(h.From) || !isSite(h.To) {
		return false
	}
	for _, stamp := range h.Stamps {
		if refs.Check(stamp.Name) != api.OK {
			return false
		}
	}
	return true
}

func isSite(name string) bool {
	if name == "" || len(name) > longestSite {
		return false
	}
	for i := range len(name) {
		if !inSite(name[i]) {
			return false
		}
	}
	return true
}

func inSite(b byte) bool {
	return b >= 'a' && b <= 'z' || b >= '0' && b <= '9' || b == '-' || b == '_' || b == '.'
}

// numbered tells whether a header's number may be, and whether none of its stamps is younger.
func numbered(h api.Header) bool {
	for _, stamp := range h.Stamps {
		if stamp.Seq < 1 || stamp.Seq > h.Seq {
			return false
		}
	}
	return h.Seq >= 1 && h.Seq <= api.MaxSeq
}

// rising tells whether the prerequisites and the stamps' names rise, so that none stands there twice.
func rising(h api.Header) bool {
	for i := 1; i < len(h.Basis); i++ {
		if compareIDs(h.Basis[i-1], h.Basis[i]) >= 0 {
			return false
		}
	}
	for i := 1; i < len(h.Stamps); i++ {
		if h.Stamps[i-1].Name >= h.Stamps[i].Name {
			return false
		}
	}
	return true
}

func tooMany(h api.Header) bool {
	return len(h.Stamps) > api.MaxStamps || len(h.Basis) > api.MaxBasis
}
