"""Sheets, for several tests."""

from stillroom.cells import read_place
from stillroom.formulas import read_formula

SIGN = list(b"sheet 1\n")
ENOUGH = 10 ** 9

NONE = ("none",)


def number(found):
    return "number", found


def text(data):
    return "text", tuple(data.encode("latin-1"))


def error(word):
    return "error", word


def content(data):
    return tuple(data.encode("latin-1"))


def tree_of(data):
    return read_formula(list(data.encode("latin-1")))


def sheet_of(**cells):
    """The sheet with these contents."""
    places = [(read_place(name), content(data)) for name, data in cells.items()]
    return tuple(sorted(places, key=lambda pair: (pair[0][1], pair[0][0])))
