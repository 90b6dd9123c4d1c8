// Package action: short values under keys.
package action

import (
	"slices"

	"depot/api"
)

// Book has the actions, in the order in which they joined.
type Book struct {
	actions []action
}

type action struct {
	key, value string
}

// Count tells how many actions there are.
func (b *Book) Count() int { return len(b.actions) }

// Get tells the value under this key; false, if there is none.
func (b *Book) Get(key string) (string, bool) {
	i := b.find(key)
	if i < 0 {
		return "", false
	}
	return b.actions[i].value, true
}

// Put puts a value under this key. An action that is there already stays in its place.
func (b *Book) Put(key, value string) {
	if i := b.find(key); i >= 0 {
		b.actions[i].value = value
		return
	}
	if len(b.actions) >= api.MaxActions {
		b.actions = slices.Delete(b.actions, 0, 1)
	}
	b.actions = append(b.actions, action{key: key, value: value})
}

func (b *Book) find(key string) int {
	return slices.IndexFunc(b.actions, func(a action) bool { return a.key == key })
}
