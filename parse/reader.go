package parse

import "commissary/api"

// reader reads tokens. Where one may not stand it is stuck: from then on it takes
// none, so that each rule comes to its end, and that token is still the next one.
type reader struct {
	rest  []api.Token // the end is among them, and never taken
	stuck bool
}

// next is the first token that is not taken.
func (r *reader) next() api.Token {
	return r.rest[0]
}

// takeIf takes the next token, if is holds of it.
func (r *reader) takeIf(is func(t api.Token) bool) (api.Token, bool) {
	t := r.next()
	if r.stuck || !is(t) {
		return api.Token{}, false
	}
	r.rest = r.rest[1:]
	return t, true
}

// take takes a word that is reserved, or a sign, if it stands next.
func (r *reader) take(word string) bool {
	_, taken := r.takeIf(func(t api.Token) bool {
		return t.S == word && (t.Kind == api.TokKey || t.Kind == api.TokSign)
	})
	return taken
}

// must takes what may alone stand next.
func (r *reader) must(word string) {
	if !r.take(word) {
		r.stuck = true
	}
}

// takeAll takes several words, if the first one stands next: then the others must follow.
func (r *reader) takeAll(words ...string) bool {
	if !r.take(words[0]) {
		return false
	}
	for _, word := range words[1:] {
		r.must(word)
	}
	return true
}

// kind takes a token of a kind, if such a one stands next.
func (r *reader) kind(kind int) (api.Token, bool) {
	return r.takeIf(func(t api.Token) bool { return t.Kind == kind })
}

// mustKind is the token of the kind that may alone stand next.
func (r *reader) mustKind(kind int) api.Token {
	t, taken := r.kind(kind)
	if !taken {
		r.stuck = true
	}
	return t
}

// name is the name that must stand next.
func (r *reader) name() string {
	return r.mustKind(api.TokWord).S
}

// list is one thing, or several with words between.
func list[T any](r *reader, thing func() T, between ...string) []T {
	things := []T{thing()}
	for r.takeAll(between...) {
		things = append(things, thing())
	}
	return things
}
