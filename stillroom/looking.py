"""Looking at the values of a book without a cost (point 127)."""

from stillroom.characters import codes
from stillroom.values import MOST_STEPS, find, follow, get_named

_NO_VALUE = ("none",)


def looked_at(book, value):
    """The value, maybe None, behind its references; none if it is followed to None."""
    found, _ = follow(book, value, MOST_STEPS)
    return _NO_VALUE if found is None else found


def key_of(book, value, name):
    """What the key, a tuple of bytes, of a value is; none if there is no such key."""
    return looked_at(book, get_named(value, name))


def root_of(book):
    """The value of the root object; none if there is none."""
    return looked_at(book, find(book, book[1]))


def word_of(value, words):
    """The one of some strings that a value, maybe None, is as a name; the empty string if
    it is none of them."""
    for word in words:
        if value == ("name", tuple(codes(word))):
            return word
    return ""
