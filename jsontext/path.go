package jsontext

import (
	"strconv"
	"strings"

	"lexicon/api"
)

// Pointer tells the value to which a path leads.
func Pointer(v api.JSON, path string) (api.JSON, api.Errno) {
	if !mayBe(v) || !isPath(path) {
		return api.JSON{}, api.ErrArg
	}
	at := &v
	for path != "" && at != nil {
		name, rest := cut(path)
		at, path = within(at, name), rest
	}
	if at == nil {
		return api.JSON{}, api.ErrNone
	}
	return copied(at), api.OK
}

// isPath tells whether a path may be.
func isPath(path string) bool {
	if path != "" && path[0] != '/' {
		return false
	}
	for i := range len(path) {
		if path[i] == '~' && !strings.HasPrefix(path[i:], "~0") && !strings.HasPrefix(path[i:], "~1") {
			return false
		}
	}
	return true
}

// cut tells a path's first name, and the path behind it.
func cut(path string) (name, rest string) {
	end := 1
	for end < len(path) && path[end] != '/' {
		end++
	}
	// The other way round, ~01 would stand for /.
	name = strings.ReplaceAll(path[1:end], "~1", "/")
	return strings.ReplaceAll(name, "~0", "~"), path[end:]
}

// within tells the value to which a name leads on; nil, if there is none.
func within(v *api.JSON, name string) *api.JSON {
	if v.Kind != api.JSONList {
		return member(v, name)
	}
	// No list that may be has more values than there are numbers of 9 digits.
	n, err := strconv.Atoi(name)
	if err != nil || n < 0 || n >= len(v.List) || strconv.Itoa(n) != name {
		return nil
	}
	return &v.List[n]
}
