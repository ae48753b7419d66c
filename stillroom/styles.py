"""Styles, and numbers and colours of keys (points 127 and 129)."""

from stillroom.characters import codes
from stillroom.colours import is_colour
from stillroom.looking import key_of, root_of, word_of

_MOST_DICTS = 8
_ALIGNS = ("Left", "Middle", "Right")


def number_of(value, low, high, other):
    """The nearest number from low to high of an integer value, otherwise the other one."""
    if value is None or value[0] != "int":
        return other
    return min(max(value[1], low), high)


def colour_of(value, other):
    """The colour of an integer value, otherwise the other one."""
    if value is None or value[0] != "int" or not is_colour(value[1]):
        return other
    return value[1]


def style_of(book, name):
    """The tuple (font, size, color, back, align, indent, gap) of a style's name."""
    dicts = _dicts_of(book, name)
    return (
        _property(book, dicts, "Font", _name_of, None),
        _property(book, dicts, "Size", _size_of, 4),
        _property(book, dicts, "Color", _color_of, 0),
        _property(book, dicts, "Back", _color_of, -1),
        _property(book, dicts, "Align", _align_of, _ALIGNS[0]),
        _property(book, dicts, "Indent", _gap_of, 0),
        _property(book, dicts, "Gap", _gap_of, 0),
    )


def _dicts_of(book, name):
    """The dict of the name, and those of its parents, one behind the other."""
    styles = key_of(book, root_of(book), tuple(codes("Styles")))
    dicts = []
    # A name that comes again brings only dicts that are there already: the bound on
    # their number ends such a ring, and what is found in them stays the same.
    while len(dicts) < _MOST_DICTS:
        style = key_of(book, styles, name)
        if style[0] != "dict":
            break
        dicts.append(style)
        name = _name_of(key_of(book, style, tuple(codes("Parent"))))
        if not name:
            break
    return dicts


def _property(book, dicts, key, read, other):
    """What is read of the first dict that has the key in its right form."""
    for style in dicts:
        found = read(key_of(book, style, tuple(codes(key))))
        if found is not None:
            return found
    return other


def _name_of(value):
    return value[1] if value[0] == "name" else None


def _size_of(value):
    return number_of(value, 1, 8, None)


def _gap_of(value):
    return number_of(value, 0, 64, None)


def _color_of(value):
    return colour_of(value, None)


def _align_of(value):
    word = word_of(value, _ALIGNS)
    return word if word else None
