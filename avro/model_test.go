package avro_test

import (
	"math/big"
	"regexp"
	"slices"
	"strings"

	"lexicon/api"
	"lexicon/decimal"
	"lexicon/jsontext"
)

// type_ is a node as the model has it: it leads to others themselves, not to their numbers.
type type_ struct {
	kind    api.AvroKind
	name    string
	fields  []member
	symbols []string
	has     bool
	or      string
	size    int
	kids    []*type_
}

// member is a field.
type member struct {
	name string
	of   *type_
	has  bool
	or   api.JSON
}

// model reads schemas by the chapter's words.
type model struct {
	defined map[string]*type_
	own     []*type_ // what the text that is being read has defined
	limits  bool
}

var (
	part = regexp.MustCompile(`^[A-Za-z_][A-Za-z0-9_]*$`)
	full = regexp.MustCompile(`^[A-Za-z_][A-Za-z0-9_]*(\.[A-Za-z_][A-Za-z0-9_]*)*$`)
)

var plain = []string{"null", "boolean", "int", "long", "float", "double", "bytes", "string"}

// made is the answer that the chapter's words ask of Make.
func made(text string, imports ...api.Import) (api.Avro, api.Errno) {
	m := &model{defined: map[string]*type_{}, limits: true}
	for _, i := range imports {
		if _, e := m.text(i.Text); e != api.OK {
			return api.Avro{}, e
		}
		if !slices.ContainsFunc(m.own, func(n *type_) bool { return n.name == i.Name }) {
			return api.Avro{}, api.ErrName
		}
	}
	return m.text(text)
}

// text reads a whole text.
func (m *model) text(text string) (api.Avro, api.Errno) {
	v, e := jsontext.Parse([]byte(text))
	if e != api.OK {
		return api.Avro{}, e
	}
	return m.value(v)
}

// value reads a whole value.
func (m *model) value(v api.JSON) (api.Avro, api.Errno) {
	m.own = nil
	root, e := m.read(v, "")
	if e != api.OK {
		return api.Avro{}, e
	}
	s, ok := laid(root)
	if !ok {
		return api.Avro{}, api.ErrAvro
	}
	for _, n := range m.own {
		for _, f := range n.fields {
			if f.has && !f.of.fits(f.or) {
				return api.Avro{}, api.ErrDefault
			}
		}
	}
	return s, api.OK
}

// get is an object's member.
func get(v api.JSON, name string) (api.JSON, bool) {
	for i, n := range v.Names {
		if n == name && v.Kind == api.JSONObject {
			return v.List[i], true
		}
	}
	return api.JSON{}, false
}

// read reads what stands where a schema is to stand.
func (m *model) read(v api.JSON, space string) (*type_, api.Errno) {
	switch v.Kind {
	case api.JSONText:
		if i := slices.Index(plain, v.Text); i >= 0 {
			return &type_{kind: api.AvroKind(i)}, api.OK
		}
		name := v.Text
		if !strings.Contains(name, ".") && space != "" {
			name = space + "." + name
		}
		if n := m.defined[name]; n != nil {
			return n, api.OK
		}
		return nil, api.ErrName
	case api.JSONList:
		return m.union(v, space)
	case api.JSONObject:
		of, _ := get(v, "type")
		if of.Kind == api.JSONText {
			switch of.Text {
			case "record", "enum", "fixed":
				return m.named(v, of.Text, space)
			case "array":
				return m.one(&type_{kind: api.AvroList}, v, "items", space)
			case "map":
				return m.one(&type_{kind: api.AvroMap}, v, "values", space)
			}
		}
		return m.read(of, space)
	}
	return nil, api.ErrAvro
}

// one reads what a list, a map is of.
func (m *model) one(n *type_, v api.JSON, name, space string) (*type_, api.Errno) {
	of, ok := get(v, name)
	if !ok {
		return nil, api.ErrAvro
	}
	kid, e := m.read(of, space)
	n.kids = []*type_{kid}
	return n, e
}

// union reads a list.
func (m *model) union(v api.JSON, space string) (*type_, api.Errno) {
	n := &type_{kind: api.AvroUnion}
	for _, v := range v.List {
		kid, e := m.read(v, space)
		if e != api.OK {
			return nil, e
		}
		for _, other := range n.kids {
			if other.kind == kid.kind && other.name == kid.name {
				return nil, api.ErrAvro
			}
		}
		if kid.kind == api.AvroUnion {
			return nil, api.ErrAvro
		}
		n.kids = append(n.kids, kid)
	}
	if len(n.kids) == 0 {
		return nil, api.ErrAvro
	}
	return n, api.OK
}

// named reads a named one.
func (m *model) named(v api.JSON, kind, space string) (*type_, api.Errno) {
	name, _ := get(v, "name")
	if name.Kind != api.JSONText {
		return nil, api.ErrAvro
	}
	n := &type_{kind: map[string]api.AvroKind{"record": 8, "enum": 9, "fixed": 10}[kind], name: name.Text}
	if !strings.Contains(n.name, ".") {
		if own, ok := get(v, "namespace"); ok {
			if own.Kind != api.JSONText {
				return nil, api.ErrAvro
			}
			space = own.Text
		}
		if space != "" {
			n.name = space + "." + n.name
		}
	}
	if !full.MatchString(n.name) || len(n.name) > 128 || m.defined[n.name] != nil || slices.Contains(plain, n.name) {
		return nil, api.ErrName
	}
	m.defined[n.name] = n
	m.own = append(m.own, n)
	e := api.OK
	switch kind {
	case "record":
		e = m.fields(n, v)
	case "enum":
		e = m.symbols(n, v)
	case "fixed":
		size, _ := get(v, "size")
		i, ok := decimal.Int(size.Number)
		n.size = int(i)
		if size.Kind != api.JSONNumber || !ok || i < 0 || i > 65536 {
			e = api.ErrAvro
		}
	}
	return n, e
}

// fields reads a record's fields.
func (m *model) fields(n *type_, v api.JSON) api.Errno {
	space := ""
	if at := strings.LastIndex(n.name, "."); at >= 0 {
		space = n.name[:at]
	}
	l, _ := get(v, "fields")
	if l.Kind != api.JSONList || len(l.List) > 256 {
		return api.ErrAvro
	}
	for _, v := range l.List {
		name, _ := get(v, "name")
		of, ok := get(v, "type")
		or, has := get(v, "default")
		switch {
		case v.Kind != api.JSONObject || name.Kind != api.JSONText:
			return api.ErrAvro
		case !part.MatchString(name.Text) || len(name.Text) > 128 || slices.ContainsFunc(n.fields, func(f member) bool { return f.name == name.Text }):
			return api.ErrName
		case !ok:
			return api.ErrAvro
		}
		kid, e := m.read(of, space)
		if e != api.OK {
			return e
		}
		n.fields = append(n.fields, member{name.Text, kid, has, or})
	}
	return api.OK
}

// symbols reads an enum's symbols, and its default.
func (m *model) symbols(n *type_, v api.JSON) api.Errno {
	l, _ := get(v, "symbols")
	if l.Kind != api.JSONList || len(l.List) > 256 || len(l.List) == 0 {
		return api.ErrAvro
	}
	for _, s := range l.List {
		if s.Kind != api.JSONText {
			return api.ErrAvro
		}
		if !part.MatchString(s.Text) || len(s.Text) > 128 || slices.Contains(n.symbols, s.Text) {
			return api.ErrName
		}
		n.symbols = append(n.symbols, s.Text)
	}
	or, has := get(v, "default")
	if has && (or.Kind != api.JSONText || !slices.Contains(n.symbols, or.Text)) {
		return api.ErrDefault
	}
	n.has, n.or = has, or.Text
	return api.OK
}

// laid is the schema from a root on; not, if there are too many nodes, or one without a space is met again in a space.
func laid(root *type_) (api.Avro, bool) {
	var s api.Avro
	numbers, ok := map[*type_]int{}, true
	var lay func(n *type_, space string) int
	lay = func(n *type_, space string) int {
		at, there := numbers[n]
		if there || len(s.Nodes) > 256 {
			ok = ok && (space == "" || strings.Contains(n.name, "."))
			return at
		}
		at = len(s.Nodes)
		s.Nodes = append(s.Nodes, api.AvroNode{Kind: n.kind, Name: n.name, Symbols: slices.Clone(n.symbols), Has: n.has, Default: n.or, Size: n.size})
		if n.name != "" {
			numbers[n], space = at, strings.Join(strings.Split(n.name, ".")[:strings.Count(n.name, ".")], ".")
		}
		for _, f := range n.fields {
			of := lay(f.of, space)
			s.Nodes[at].Fields = append(s.Nodes[at].Fields, api.AvroField{Name: f.name, Type: of, Has: f.has, Default: f.or})
		}
		for _, kid := range n.kids {
			of := lay(kid, space)
			s.Nodes[at].Kids = append(s.Nodes[at].Kids, of)
		}
		return at
	}
	lay(root, "")
	return s, ok && len(s.Nodes) <= 256
}

// finite tells whether the nearest float of 32, or of 64 bits is finite: below the greatest one and half a step.
func finite(v api.JSON, exp, bits uint) bool {
	text, e := decimal.Text(v.Number)
	x, ok := new(big.Rat).SetString(text)
	bound := new(big.Int).Sub(new(big.Int).Lsh(big.NewInt(1), exp), new(big.Int).Lsh(big.NewInt(1), exp-bits-1))
	return v.Kind == api.JSONNumber && e == api.OK && ok && x.Abs(x).Cmp(new(big.Rat).SetInt(bound)) < 0
}

// whole tells whether a value is a whole number of so many bits.
func whole(v api.JSON, bits uint) bool {
	text, e := decimal.Text(v.Number)
	x, ok := new(big.Rat).SetString(text)
	if v.Kind != api.JSONNumber || e != api.OK || !ok || !x.IsInt() {
		return false
	}
	bound := new(big.Int).Lsh(big.NewInt(1), bits-1)
	return x.Num().Cmp(bound) < 0 && new(big.Int).Neg(x.Num()).Cmp(bound) <= 0
}

// fits tells whether a value fits, by the chapter's words.
func (n *type_) fits(v api.JSON) bool {
	letters := []rune(v.Text)
	small := v.Kind == api.JSONText && !slices.ContainsFunc(letters, func(c rune) bool { return c > 0xff })
	switch n.kind {
	case 0:
		return v.Kind == api.JSONNull
	case 1:
		return v.Kind == api.JSONBool
	case 2:
		return whole(v, 32)
	case 3:
		return whole(v, 64)
	case 4:
		return finite(v, 128, 24)
	case 5:
		return finite(v, 1024, 53)
	case 6:
		return small
	case 7:
		return v.Kind == api.JSONText
	case 8:
		for i, name := range v.Names {
			at := slices.IndexFunc(n.fields, func(f member) bool { return f.name == name })
			if at < 0 || !n.fields[at].of.fits(v.List[i]) {
				return false
			}
		}
		return v.Kind == api.JSONObject && len(v.Names) == len(n.fields)
	case 9:
		return v.Kind == api.JSONText && slices.Contains(n.symbols, v.Text)
	case 10:
		return small && len(letters) == n.size
	case 11, 12:
		for _, w := range v.List {
			if !n.kids[0].fits(w) {
				return false
			}
		}
		return v.Kind == api.JSONList && n.kind == 11 || v.Kind == api.JSONObject && n.kind == 12
	}
	return n.kids[0].fits(v)
}
