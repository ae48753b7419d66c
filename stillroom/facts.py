"""The facts of a byte list (points 186 and 187)."""

from stillroom.checks import is_byte_tuple, is_integer_from, is_tuple_of
from stillroom.measure import budget
from stillroom.showing import look_at
from stillroom.signs import KINDS, kind_of, possible_kinds

ACT_KINDS = ("open", "file", "link", "form", "fetch", "script")
GREATEST_SIZE = 2147483647
MOST_PAGES = 8
GREATEST_DEPTH = 4

# The kinds that may be possible at once with others: the last two of KINDS.
_FIRST_LOOSE = 4


def facts_of(name, data):
    """The facts of a byte list with a name, a byte list."""
    pages, acts, depth, _ = look_at(data, budget(len(data)), 0)
    kinds = tuple(possible_kinds(data))
    done = tuple([kind for kind, _ in acts])
    return tuple(name), len(data), kind_of(data), kinds, len(pages), done, depth


def is_sound(value):
    """True if the value, of any kind, is sound facts."""
    if not is_tuple_of(value, 7):
        return False
    name, size, kind, kinds, pages, acts, depth = value
    if not is_byte_tuple(name) or not is_integer_from(size, 0, GREATEST_SIZE):
        return False
    if not is_integer_from(pages, 0, MOST_PAGES) or not is_integer_from(depth, 0, GREATEST_DEPTH):
        return False
    if not isinstance(acts, tuple) or not all([act in ACT_KINDS for act in acts]):
        return False
    return _are_kinds(kinds) and kind in possible_choices(kinds)


def _are_kinds(value):
    """True if the value, of any kind, is a tuple of kinds that are possible at once."""
    if not isinstance(value, tuple) or not all([kind in KINDS for kind in value]):
        return False
    places = [KINDS.index(kind) for kind in value]
    if not all([before < after for before, after in zip(places, places[1:])]):
        return False
    return len([place for place in places if place < _FIRST_LOOSE]) <= 1


def possible_choices(kinds):
    """The tuple of what the kind may be if these kinds are possible."""
    if len(kinds) == 0:
        return ("",)
    if kinds[0] in KINDS[:_FIRST_LOOSE]:
        return kinds[:1]
    return kinds
