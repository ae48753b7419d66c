"""Characters and their ASCII codes."""

# The characters of the codes 32 to 126. The space in the place of the code 37
# holds it free: callers never ask for that one.
_CHARACTERS = (
    " !\"#$ &'()*+,-./0123456789:;<=>?@ABCDEFGHIJKLMNOPQRSTUVWXYZ"
    "[\\]^_`abcdefghijklmnopqrstuvwxyz{|}~"
)


def codes(text):
    """The list of the codes of a string."""
    return [ord(character) for character in text]


def character(code):
    """The character of a code from 32 to 126, but not 37."""
    return _CHARACTERS[code - 32]


def string_of(data):
    """The string of the characters of some codes from 32 to 126, but not 37."""
    return "".join([character(code) for code in data])
