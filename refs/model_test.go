package refs

import (
	"math/rand"
	"regexp"
	"slices"
	"strconv"
	"strings"
	"testing"

	"satchel/api"
	"satchel/digest"
)

// model tells the chapter's words on what texts mean in the plainest way, of objects in a map.
type model struct {
	objects map[api.ID]api.Object
	refs    []api.Ref
	head    string
}

var (
	wholeText = regexp.MustCompile(`(?s)^([^~^:]*)((?:[~^](?:0|[1-9][0-9]{0,5})?|\^\{(?:commit|tree|blob|tag|)\})*)(:.*)?$`)
	oneStep   = regexp.MustCompile(`\^\{[a-z]*\}|[~^][0-9]*`)
	someHex   = regexp.MustCompile(`^[0-9a-f]{4,64}$`)
)

func (m model) resolve(text string) (api.ID, api.Errno) {
	parts := wholeText.FindStringSubmatch(text)
	if parts == nil || parts[1] != "HEAD" && !isGood(parts[1]) && !someHex.MatchString(parts[1]) {
		return api.ID{}, api.ErrRefsText
	}
	id, e := m.find(parts[1])
	if e != api.OK {
		return api.ID{}, e
	}
	steps := oneStep.FindAllString(parts[2], -1)
	if parts[3] != "" {
		steps = append(steps, parts[3])
	}
	for _, step := range steps {
		var ok bool
		if id, ok = m.step(id, step); !ok {
			return api.ID{}, api.ErrRefsStep
		}
	}
	return id, api.OK
}

func (m model) find(base string) (api.ID, api.Errno) {
	ways := []string{"", "heads/", "tags/", "far/"}
	name := base
	if base == "HEAD" {
		ways, name = []string{""}, m.head
	}
	for _, way := range ways {
		i := slices.IndexFunc(m.refs, func(r api.Ref) bool { return r.Name == way+name })
		if i >= 0 && m.refs[i].ID != (api.ID{}) {
			return m.refs[i].ID, api.OK
		}
	}
	var found []api.ID
	for id := range m.objects {
		if strings.HasPrefix(digest.Hex(id), base) && someHex.MatchString(base) {
			found = append(found, id)
		}
	}
	switch len(found) {
	case 0:
		return api.ID{}, api.ErrRefsNone
	case 1:
		return found[0], api.OK
	}
	return api.ID{}, api.ErrRefsMany
}

// peeled tells what there is in the end, and of what kind.
func (m model) peeled(id api.ID) (api.ID, int) {
	o := m.objects[id]
	for range 100 {
		if o.Kind != api.KindTag {
			return id, o.Kind
		}
		want := o.Tag.Kind
		id = o.Tag.Target
		o = m.objects[id]
		if o.Kind != want {
			return id, api.KindNone
		}
	}
	return id, api.KindNone
}

func (m model) step(id api.ID, step string) (api.ID, bool) {
	if step == "^{tag}" {
		return id, m.objects[id].Kind == api.KindTag
	}
	id, kind := m.peeled(id)
	commit := m.objects[id].Commit
	sign, number := step[0], 1
	if n, err := strconv.Atoi(step[1:]); err == nil {
		number = n
	}
	switch {
	case kind == api.KindNone:
		return id, false
	case step == "^{}":
		return id, true
	case step == "^{commit}":
		return id, kind == api.KindCommit
	case step == "^{blob}":
		return id, kind == api.KindBlob
	case step == "^{tree}" || sign == ':':
		if kind == api.KindCommit {
			id = commit.Tree
		}
		if m.objects[id].Kind != api.KindTree {
			return id, false
		}
		if sign == ':' && step != ":" {
			return m.below(id, strings.Split(step[1:], "/"))
		}
		return id, true
	case kind != api.KindCommit:
		return id, false
	case number == 0:
		return id, true
	case sign == '^':
		if number > len(commit.Parents) {
			return id, false
		}
		return commit.Parents[number-1], true
	}
	for range number {
		if m.objects[id].Kind != api.KindCommit || len(m.objects[id].Commit.Parents) == 0 {
			return id, false
		}
		id = m.objects[id].Commit.Parents[0]
	}
	return id, true
}

func (m model) below(id api.ID, names []string) (api.ID, bool) {
	for _, entry := range m.objects[id].Entries {
		if entry.Name != names[0] {
			continue
		}
		if len(names) == 1 {
			return entry.ID, true
		}
		if entry.Mode != api.ModeTree {
			return id, false
		}
		return m.below(entry.ID, names[1:]) // what is no tree has no entries
	}
	return id, false
}

// chance draws worlds with their models.
type chance struct {
	r   *rand.Rand
	w   *world
	m   model
	ids []api.ID // of which some are not there
}

func (c *chance) any() api.ID { return c.ids[c.r.Intn(len(c.ids))] }

// of tells an id of a kind, most often.
func (c *chance) of(kind int) api.ID {
	for range 40 {
		if id := c.any(); c.m.objects[id].Kind == kind {
			return id
		}
	}
	return c.any()
}

func (c *chance) object(n int) api.Object {
	switch c.r.Intn(8) {
	case 0:
		return api.Object{Kind: api.KindBlob, Blob: []byte{byte(n)}}
	case 1, 2:
		o := api.Object{Kind: api.KindTree}
		for _, name := range []string{"a", "b", "c"} {
			switch c.r.Intn(3) {
			case 0:
				o.Entries = append(o.Entries, file(name, c.of(api.KindBlob)))
			case 1:
				o.Entries = append(o.Entries, folder(name, c.of(api.KindTree)))
			}
		}
		return o
	case 3, 4:
		target := c.any()
		kind := c.m.objects[target].Kind
		if kind == api.KindNone || c.r.Intn(10) == 0 {
			kind = 1 + c.r.Intn(4)
		}
		return aTag(target, kind)
	}
	o := aCommit(c.of(api.KindTree), strconv.Itoa(n))
	for range c.r.Intn(4) {
		if parent := c.of(api.KindCommit); !slices.Contains(o.Commit.Parents, parent) {
			o.Commit.Parents = append(o.Commit.Parents, parent)
		}
	}
	return o
}

func drawWorld(t *testing.T, r *rand.Rand) *chance {
	c := &chance{r: r, w: newWorld(t), m: model{objects: map[api.ID]api.Object{}}, ids: []api.ID{{}, all(7)}}
	for n := range 6 + r.Intn(20) {
		o := c.object(n)
		id := c.w.put(o)
		c.ids = append(c.ids, id)
		c.m.objects[id] = o
	}
	for range r.Intn(3) {
		id := c.any()
		c.w.s.Remove(id)
		delete(c.m.objects, id)
	}
	for range r.Intn(10) {
		name := []string{"", "heads/", "tags/", "far/"}[r.Intn(4)] + []string{"m", "n", "HEAD", "beef", digest.Hex(c.any())[:4]}[r.Intn(5)]
		c.w.ref(name, c.of(api.KindTag))
		if r.Intn(3) == 0 {
			c.w.refs[len(c.w.refs)-1].ID = c.of(api.KindCommit)
		}
	}
	c.w.head = "m"
	if len(c.w.refs) > 0 && r.Intn(4) > 0 {
		c.w.head = c.w.refs[r.Intn(len(c.w.refs))].Name
	}
	c.m.refs, c.m.head = c.w.refs, c.w.head
	return c
}

// text draws a text that often means something.
func (c *chance) text() string {
	base := []string{"m", "n", "heads/m", "tags/n", "HEAD", "beef", "nope", "a b", ""}[c.r.Intn(9)]
	if c.r.Intn(2) == 0 {
		base = digest.Hex(c.any())[:[]int{3, 4, 5, 64}[c.r.Intn(4)]]
	}
	var s strings.Builder
	for range c.r.Intn(4) {
		s.WriteString([]string{"~", "~1", "^", "^2", "^0", "~2", "~3", "^{}", "^{}", "^{commit}", "^{tree}", "^{tag}", "^{blob}", "~0", "~01", "^{x}"}[c.r.Intn(16-c.r.Intn(3))])
	}
	if c.r.Intn(3) == 0 {
		s.WriteString([]string{":", ":a", ":b", ":a/b", ":b/a/c", ":a/", ":d"}[c.r.Intn(7)])
	}
	return base + s.String()
}

func TestResolveAgainstTheModel(t *testing.T) { // P14.8
	r := rand.New(rand.NewSource(5))
	told := map[api.Errno]int{}
	for range 1000 {
		c := drawWorld(t, r)
		for range 50 {
			text := c.text()
			want, e := c.m.resolve(text)
			told[e]++
			if e == api.OK {
				c.w.means(want, text)
			} else {
				c.w.fails(e, text)
			}
		}
	}
	for _, e := range []api.Errno{api.OK, api.ErrRefsNone, api.ErrRefsText, api.ErrRefsStep} {
		if told[e] < 2000 {
			t.Errorf("few of a kind are drawn: %v", told)
		}
	}
}

func TestResolveTextsAgainstTheModel(t *testing.T) { // P14.8: texts of all kinds of bytes
	r := rand.New(rand.NewSource(6))
	x := newExample(t)
	m := model{objects: map[api.ID]api.Object{
		x.blob: {Kind: api.KindBlob}, x.a: {Kind: api.KindTree, Entries: []api.Entry{file("f", x.blob)}}, x.top: {Kind: api.KindTree, Entries: []api.Entry{folder("a", x.a)}}, x.empty: {Kind: api.KindTree},
		x.c0: aCommit(x.empty, ""), x.c1: aCommit(x.empty, ""), x.c2: aCommit(x.top, "", x.c1, x.c0), x.v: aTag(x.c1, api.KindCommit),
	}, refs: x.refs, head: x.head}
	told := map[api.Errno]int{}
	for range 100000 {
		text := []string{"main", "v", "", "HEAD"}[r.Intn(4)] + drawName(r, "~", "^", ":", "0", "1", "2", "^{}", "^{tree}", "{", "}", "^{", "tag}", "a", "/f", "9", "\xff", " ", ":a")
		want, e := m.resolve(text)
		told[e]++
		if e == api.OK {
			x.means(want, text)
		} else {
			x.fails(e, text)
		}
	}
	for _, e := range []api.Errno{api.OK, api.ErrRefsNone, api.ErrRefsText, api.ErrRefsStep} {
		if told[e] < 3000 {
			t.Errorf("few of a kind are drawn: %v", told)
		}
	}
}
