package jsontext

import (
	"slices"
	"strings"
	"unicode/utf8"

	"lexicon/api"
	"lexicon/decimal"
)

// ask gives up, if a value may not be, whatever its depth and its text's length are.
func ask(v *api.JSON) {
	rest := *v // what its kind does not name
	fits := true
	switch v.Kind {
	case api.JSONNull:
	case api.JSONBool:
		rest.Bool = false
	case api.JSONNumber:
		rest.Number = api.Decimal{}
		fits = decimal.Check(v.Number) == api.OK
	case api.JSONText:
		rest.Text = ""
		fits = utf8.ValidString(v.Text)
	case api.JSONObject:
		rest.Names = nil
		fits = len(v.Names) == len(v.List) && namesFit(v.Names)
		fallthrough
	case api.JSONList:
		rest.List = nil
		for i := range v.List {
			ask(&v.List[i])
		}
	default:
		fits = false
	}
	if !fits || !isZero(&rest) {
		panic(api.ErrArg)
	}
}

// isZero tells whether a value names nothing.
func isZero(v *api.JSON) bool {
	return !v.Bool && v.Number == api.Decimal{} && v.Text == "" && len(v.List) == 0 && len(v.Names) == 0
}

// namesFit tells whether names are UTF-8, no two of them alike.
func namesFit(names []string) bool {
	there := make(map[string]struct{}, len(names))
	for _, name := range names {
		if !utf8.ValidString(name) {
			return false
		}
		there[name] = struct{}{}
	}
	return len(there) == len(names)
}

// depth tells how many lists and objects are nested in one another.
func depth(v *api.JSON) int {
	deepest := 0
	switch v.Kind {
	case api.JSONList, api.JSONObject:
		for i := range v.List {
			deepest = max(deepest, depth(&v.List[i]))
		}
		deepest++
	}
	return deepest
}

// member tells the value of an object's member; nil, if there is none.
func member(v *api.JSON, name string) *api.JSON {
	at := slices.Index(v.Names, name)
	if at < 0 {
		return nil
	}
	return &v.List[at]
}

// copied tells the same value in memory of its own.
func copied(v *api.JSON) api.JSON {
	c := *v
	c.Number.Digits, c.Text = strings.Clone(v.Number.Digits), strings.Clone(v.Text)
	c.Names, c.List = slices.Grow([]string(nil), len(v.Names)), slices.Grow([]api.JSON(nil), len(v.List))
	for _, name := range v.Names {
		c.Names = append(c.Names, strings.Clone(name))
	}
	for i := range v.List {
		c.List = append(c.List, copied(&v.List[i]))
	}
	return c
}

// same tells whether two values that may be are the same.
func same(a, b *api.JSON) bool {
	if a.Kind != b.Kind || a.Bool != b.Bool || a.Number != b.Number || a.Text != b.Text || len(a.List) != len(b.List) {
		return false
	}
	places := make(map[string]int, len(b.Names))
	for i, name := range b.Names {
		places[name] = i
	}
	for i := range a.List {
		at := i
		if a.Kind == api.JSONObject {
			place, ok := places[a.Names[i]]
			if !ok {
				return false
			}
			at = place
		}
		if !same(&a.List[i], &b.List[at]) {
			return false
		}
	}
	return true
}
