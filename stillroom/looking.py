"""Looking at the values of a book without a cost (point 127)."""

from stillroom.values import MOST_STEPS, find, follow, get_named

_NO_VALUE = ("none",)


def key_of(book, value, name):
    """What the key, a tuple of bytes, of a value is; none if there is no such key."""
    found, _ = follow(book, get_named(value, name), MOST_STEPS)
    return _NO_VALUE if found is None else found


def root_of(book):
    """The value of the root object; none if there is none."""
    found, _ = follow(book, find(book, book[1]), MOST_STEPS)
    return _NO_VALUE if found is None else found
