package avrocanon_test

import (
	"fmt"
	"slices"
	"strings"

	"lexicon/api"
	"lexicon/decimal"
)

// model tells forms by the chapter's words.
type model struct {
	s      api.Avro
	whole  bool
	met    map[int]bool
	spaces int // how many members namespace it has told
}

// modelled are the forms that the chapter's words ask of a schema that may be, and how many members namespace the first one has.
func modelled(s api.Avro) (normal, canon string, spaces int) {
	n := &model{s: s, whole: true, met: map[int]bool{}}
	c := &model{s: s, met: map[int]bool{}}
	return n.node(s.Root, nil), c.node(s.Root, nil), n.spaces
}

// node is a node's text; a space is its parts.
func (m *model) node(at int, space []string) string {
	n := m.s.Nodes[at]
	if n.Name != "" && m.met[at] {
		return quoted(n.Name)
	}
	m.met[at] = true
	switch n.Kind {
	case api.AvroList:
		return fmt.Sprintf(`{"type":"array","items":%s}`, m.node(n.Kids[0], space))
	case api.AvroMap:
		return fmt.Sprintf(`{"type":"map","values":%s}`, m.node(n.Kids[0], space))
	case api.AvroUnion:
		var l []string
		for _, kid := range n.Kids {
			l = append(l, m.node(kid, space))
		}
		return "[" + strings.Join(l, ",") + "]"
	case api.AvroRecord, api.AvroEnum, api.AvroFixed:
		parts := strings.Split(n.Name, ".")
		own := parts[:len(parts)-1]
		l := []string{`"name":` + quoted(n.Name)}
		if m.whole && len(own) == 0 && len(space) > 0 {
			m.spaces++
			l = append(l, `"namespace":""`)
		}
		return "{" + strings.Join(append(l, m.rest(n, own)...), ",") + "}"
	}
	return quoted([]string{"null", "boolean", "int", "long", "float", "double", "bytes", "string"}[n.Kind])
}

// rest are a named node's members, from type on.
func (m *model) rest(n api.AvroNode, own []string) []string {
	var l []string
	switch n.Kind {
	case api.AvroRecord:
		for _, f := range n.Fields {
			t := fmt.Sprintf(`{"name":%s,"type":%s}`, quoted(f.Name), m.node(f.Type, own))
			if f.Has && m.whole {
				t = t[:len(t)-1] + `,"default":` + sorted(f.Default) + "}"
			}
			l = append(l, t)
		}
		return []string{`"type":"record"`, `"fields":[` + strings.Join(l, ",") + "]"}
	case api.AvroEnum:
		for _, s := range n.Symbols {
			l = append(l, quoted(s))
		}
		l = []string{`"type":"enum"`, `"symbols":[` + strings.Join(l, ",") + "]"}
		if n.Has && m.whole {
			l = append(l, `"default":`+quoted(n.Default))
		}
		return l
	}
	return []string{`"type":"fixed"`, fmt.Sprintf(`"size":%d`, n.Size)}
}

// sorted is a value's text, the members of its objects by their names.
func sorted(v api.JSON) string {
	var l []string
	switch v.Kind {
	case api.JSONNull:
		return "null"
	case api.JSONBool:
		return fmt.Sprint(v.Bool)
	case api.JSONNumber:
		text, _ := decimal.Text(v.Number)
		return text
	case api.JSONText:
		return quoted(v.Text)
	case api.JSONList:
		for _, w := range v.List {
			l = append(l, sorted(w))
		}
		return "[" + strings.Join(l, ",") + "]"
	}
	places := map[string]int{}
	names := slices.Clone(v.Names)
	for i, name := range names {
		places[name] = i
	}
	slices.Sort(names)
	for _, name := range names {
		l = append(l, quoted(name)+":"+sorted(v.List[places[name]]))
	}
	return "{" + strings.Join(l, ",") + "}"
}

// quoted is a text in quotes.
func quoted(s string) string {
	escapes := map[rune]string{'"': `\"`, '\\': `\\`, 8: `\b`, 9: `\t`, 10: `\n`, 12: `\f`, 13: `\r`}
	var b strings.Builder
	for _, c := range s {
		e, ok := escapes[c]
		switch {
		case ok:
			b.WriteString(e)
		case c < 32:
			fmt.Fprintf(&b, `\u%04x`, c)
		default:
			b.WriteRune(c)
		}
	}
	return `"` + b.String() + `"`
}

// nesting is how many lists and objects of a JSON text are nested in one another.
func nesting(text string) int {
	deepest, deep, inside := 0, 0, false
	for i := 0; i < len(text); i++ {
		switch c := text[i]; {
		case inside && c == '\\':
			i++
		case c == '"':
			inside = !inside
		case !inside && (c == '[' || c == '{'):
			deep++
			deepest = max(deepest, deep)
		case !inside && (c == ']' || c == '}'):
			deep--
		}
	}
	return deepest
}
