package tree

import (
	"bytes"
	"slices"
	"strings"

	"satchel/api"
	"satchel/object"
)

func isPath(path string) bool {
	if len(path) > api.MaxPath || strings.Count(path, "/") >= api.MaxDepth {
		return false
	}
	for _, name := range strings.Split(path, "/") {
		if !object.Name(name) {
			return false
		}
	}
	return true
}

// split tells the folder in which a path stands, the empty one for the root, and its last name.
func split(path string) (string, string) {
	at := strings.LastIndexByte(path, '/')
	return path[:max(at, 0)], path[at+1:]
}

// above tells the folders of a path, the innermost first; the root is none of them.
func above(path string) []string {
	var list []string
	for folder, _ := split(path); folder != ""; folder, _ = split(folder) {
		list = append(list, folder)
	}
	return list
}

// fault tells the first error of a set of files, but for trees that aren't right.
func fault(files []api.File) api.Errno {
	if len(files) > api.MaxFiles {
		return api.ErrTreeMany
	}
	for _, file := range files {
		if !isPath(file.Path) {
			return api.ErrTreePath
		}
	}
	for _, file := range files {
		if file.Mode < api.ModeFile || file.Mode > api.ModeLink {
			return api.ErrTreeMode
		}
	}
	set := byPath(files)
	if len(set) < len(files) {
		return api.ErrTreeTwice
	}
	if len(clashes(set)) > 0 {
		return api.ErrTreeClash
	}
	return api.OK
}

// clashes tells the paths that are folders of others, sorted.
func clashes(files map[string]api.File) []string {
	found := map[string]api.File{}
	for path := range files {
		for _, folder := range above(path) {
			if file, ok := files[folder]; ok {
				found[folder] = file
			}
		}
	}
	return sorted(strings.Compare, found)
}

// build makes the tree of files that have no fault. It takes any digest: only a weak one shows what becomes of unlike trees of one id.
func build(files []api.File, idOf func([]byte) api.ID) (api.ID, [][]byte, api.Errno) {
	entries := spread(files)
	rows := map[string][]api.Entry{}
	trees := map[api.ID][]byte{}
	var root api.ID
	// What is in a folder has a greater path than the folder: from the last path to the first a folder comes behind all of it.
	paths := sorted(strings.Compare, entries)
	slices.Reverse(paths)
	for _, path := range paths {
		entry := entries[path]
		if entry.Mode == api.ModeTree {
			slices.Reverse(rows[path])
			enc, e := object.Encode(api.Object{Kind: api.KindTree, Entries: rows[path]})
			if e != api.OK {
				return api.ID{}, nil, api.ErrTreeMany
			}
			delete(rows, path)
			entry.ID = idOf(enc)
			trees[entry.ID] = enc // the least path's comes last, and stays
			root = entry.ID
		}
		if path != "" {
			folder, _ := split(path)
			rows[folder] = append(rows[folder], entry)
		}
	}
	var encodings [][]byte
	for _, id := range sorted(compareIDs, trees) {
		encodings = append(encodings, trees[id])
	}
	return root, encodings, api.OK
}

// spread tells the entries of files and of their folders by path; the folders' ids are not known yet.
func spread(files []api.File) map[string]api.Entry {
	entries := map[string]api.Entry{"": {Mode: api.ModeTree}}
	for _, file := range files {
		_, name := split(file.Path)
		entries[file.Path] = api.Entry{Mode: file.Mode, Name: name, ID: file.ID}
		for _, folder := range above(file.Path) {
			_, name := split(folder)
			entries[folder] = api.Entry{Mode: api.ModeTree, Name: name}
		}
	}
	return entries
}

func byPath(files []api.File) map[string]api.File {
	set := map[string]api.File{}
	for _, file := range files {
		set[file.Path] = file
	}
	return set
}

// lay puts a file in its place; none takes away what is there.
func lay(files map[string]api.File, path string, file api.File) {
	if file.Mode == api.ModeNone {
		delete(files, path)
		return
	}
	files[path] = file
}

func inOrder(files map[string]api.File) []api.File {
	list := make([]api.File, 0, len(files))
	for _, path := range sorted(strings.Compare, files) {
		list = append(list, files[path])
	}
	return list
}

func compareIDs(a, b api.ID) int { return bytes.Compare(a[:], b[:]) }

// sorted tells the keys of some maps, each once.
func sorted[K comparable, V any](compare func(a, b K) int, all ...map[K]V) []K {
	var keys []K
	for _, m := range all {
		for key := range m {
			keys = append(keys, key)
		}
	}
	slices.SortFunc(keys, compare)
	return slices.Compact(keys)
}
