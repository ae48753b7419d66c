"""Stillroom: a cleaner of documents."""
